package types_test

import (
	"math/rand"
	"reflect"
	"slices"
	"strconv"
	"testing"

	"madrigal/api"
	"madrigal/sig"
	"madrigal/types"
)

func v(n int) api.Term { return api.Term{Kind: api.KVar, N: n} }

func op(n int, l ...api.Term) api.Term { return api.Term{Kind: api.KOp, N: n, L: l} }

func names(l ...string) []string { return l }

// o returns an operation: the last sort is its result.
func o(name string, l ...int) api.Op {
	return api.Op{Name: name, Args: l[:len(l)-1], Res: l[len(l)-1]}
}

func signature(sorts []string, ops ...api.Op) api.Sig { return api.Sig{Sorts: sorts, Ops: ops} }

// numbers is a type: nat and bool; 0, s, true, false, _<_, with equations.
func numbers() api.Type {
	return api.Type{
		Sig: signature(names("nat", "bool"), o("0", 0), o("s", 0, 0), o("true", 1), o("false", 1), o("_<_", 0, 0, 1)),
		Eqns: []api.Eqn{
			{Vars: []int{0}, A: op(4, v(0), op(0)), B: op(3)},
			{Vars: []int{0}, A: op(4, op(0), op(1, v(0))), B: op(2)},
			{Vars: []int{0, 0}, A: op(4, op(1, v(0)), op(1, v(1))), B: op(4, v(0), v(1))},
			{Vars: []int{0, 0}, Conds: []api.Pair{{A: v(0), B: op(1, v(1))}}, A: op(4, v(0), v(1)), B: op(3)},
		},
	}
}

// high returns an operation with one argument, as deep as said, around end.
func high(n, deep int, end api.Term) api.Term {
	for range deep - 1 {
		end = op(n, end)
	}
	return end
}

// doubled returns a term that shares memory, with 2 to the power of levels nodes, and more.
func doubled(n, levels int) api.Term {
	out := op(0)
	for range levels {
		out = op(n, out, out)
	}
	return out
}

// many returns a signature with that many sorts and operations; names begin with those given.
func many(sort string, sorts int, name string, ops int) api.Sig {
	var out api.Sig
	for i := range sorts {
		out.Sorts = append(out.Sorts, sort+strconv.Itoa(i))
	}
	for i := range ops {
		out.Ops = append(out.Ops, api.Op{Name: name + strconv.Itoa(i)})
	}
	return out
}

// chains returns that many different equations between a unary operation, again and again around another one, and a constant.
func chains(f, g, c, count int) []api.Eqn {
	var out []api.Eqn
	for i := range count {
		out = append(out, api.Eqn{A: high(f, i/20+2, high(g, i%20+1, op(c))), B: op(c)})
	}
	return out
}

// maker makes things at random, over few names, so that parts often are the same.
type maker struct{ *rand.Rand }

func newMaker(seed int64) maker { return maker{rand.New(rand.NewSource(seed))} }

func pick[T any](m maker, l ...T) T { return l[m.Intn(len(l))] }

// sortNames returns up to count names.
func (m maker) sortNames(count int) []string {
	var out []string
	for range m.Intn(count + 1) {
		out = append(out, pick(m, "a", "b", "c", "d", "e"))
	}
	return out
}

// ops returns up to count operations over that many sorts.
func (m maker) ops(count, sorts int) []api.Op {
	var out []api.Op
	for range m.Intn(count + 1) {
		if sorts == 0 {
			return nil
		}
		x := api.Op{Name: pick(m, "f", "g", "h"), Args: make([]int, m.Intn(3)), Res: m.Intn(sorts)}
		for i := range x.Args {
			x.Args[i] = m.Intn(sorts)
		}
		if len(x.Args) == 2 && m.Intn(2) == 0 {
			x.Name = "_+_"
		}
		out = append(out, x)
	}
	return out
}

// tidy returns a signature of what is no duplicate.
func tidy(s api.Sig) api.Sig {
	var out api.Sig
	for _, x := range s.Sorts {
		if !slices.Contains(out.Sorts, x) {
			out.Sorts = append(out.Sorts, x)
		}
	}
	for _, x := range s.Ops {
		x.Args, x.Res = slices.Clone(x.Args), x.Res%len(out.Sorts)
		for i := range x.Args {
			x.Args[i] %= len(out.Sorts)
		}
		if !slices.ContainsFunc(out.Ops, func(y api.Op) bool { return reflect.DeepEqual(x, y) }) {
			out.Ops = append(out.Ops, x)
		}
	}
	return out
}

func (m maker) sig() api.Sig {
	s := api.Sig{Sorts: m.sortNames(4)}
	s.Ops = m.ops(7, len(s.Sorts))
	return tidy(s)
}

// term returns a term of a sort, if it finds one; vars can be used, and new ones if more is set.
func (m maker) term(s api.Sig, sort, deep int, vars *[]int, more bool) (api.Term, bool) {
	if deep <= 1 || m.Intn(4) == 0 {
		var can []int
		for i, k := range *vars {
			if k == sort {
				can = append(can, i)
			}
		}
		switch {
		case len(can) > 0 && m.Intn(3) > 0:
			return v(pick(m, can...)), true
		case more && len(*vars) < 5 && m.Intn(2) == 0:
			*vars = append(*vars, sort)
			return v(len(*vars) - 1), true
		}
	}
	var can []int
	for i, x := range s.Ops {
		if x.Res == sort && (deep > 1 || len(x.Args) == 0) {
			can = append(can, i)
		}
	}
	if len(can) == 0 {
		return api.Term{}, false
	}
	out := op(pick(m, can...))
	for _, k := range s.Ops[out.N].Args {
		x, is := m.term(s, k, deep-1, vars, more)
		if !is {
			return x, false
		}
		out.L = append(out.L, x)
	}
	return out, true
}

// eqn returns an equation, whose variables are not in order, if it finds one.
func (m maker) eqn(s api.Sig) (api.Eqn, bool) {
	if len(s.Ops) == 0 {
		return api.Eqn{}, false
	}
	var e api.Eqn
	var isA, isB bool
	sort := pick(m, s.Ops...).Res
	e.A, isA = m.term(s, sort, 3, &e.Vars, true)
	e.B, isB = m.term(s, sort, 3, &e.Vars, false)
	if !isA || !isB || e.A.Kind == api.KVar {
		return api.Eqn{}, false
	}
	for range m.Intn(3) {
		k := m.Intn(len(s.Sorts))
		x, isX := m.term(s, k, 2, &e.Vars, false)
		y, isY := m.term(s, k, 2, &e.Vars, false)
		if isX && isY {
			e.Conds = append(e.Conds, api.Pair{A: x, B: y})
		}
	}
	return m.mixed(s, e), true
}

// mixed returns an equation with its variables in another order, and perhaps one that does not occur.
func (m maker) mixed(s api.Sig, e api.Eqn) api.Eqn {
	vars := slices.Clone(e.Vars)
	if m.Intn(3) == 0 {
		vars = append(vars, m.Intn(len(s.Sorts)))
	}
	to := m.Perm(len(vars))
	out := api.Eqn{Vars: make([]int, len(vars)), A: renumbered(e.A, to), B: renumbered(e.B, to)}
	for i, k := range vars {
		out.Vars[to[i]] = k
	}
	for _, c := range e.Conds {
		out.Conds = append(out.Conds, api.Pair{A: renumbered(c.A, to), B: renumbered(c.B, to)})
	}
	return out
}

func renumbered(t api.Term, to []int) api.Term {
	if t.Kind == api.KVar {
		return v(to[t.N])
	}
	out := op(t.N)
	for _, x := range t.L {
		out.L = append(out.L, renumbered(x, to))
	}
	return out
}

func (m maker) eqns(s api.Sig, count int) []api.Eqn {
	var out []api.Eqn
	for range m.Intn(count + 1) {
		if e, is := m.eqn(s); is {
			out = append(out, e)
			if m.Intn(5) == 0 {
				out = append(out, m.mixed(s, e))
			}
		}
	}
	return out
}

// typ returns a type.
func (m maker) typ() api.Type {
	s := m.sig()
	return api.Type{Sig: s, Eqns: m.eqns(s, 6)}
}

// wider returns a type with at least the sorts and operations of s, and a morphism into it, which is one by numbers and not by names.
func (m maker) wider(s api.Sig) (api.Sig, api.Morph) {
	to := m.sig()
	var out api.Morph
	for range s.Sorts {
		if len(to.Sorts) == 0 || m.Intn(2) == 0 {
			to.Sorts = append(to.Sorts, "n"+strconv.Itoa(len(to.Sorts)))
			out.Sorts = append(out.Sorts, len(to.Sorts)-1)
		} else {
			out.Sorts = append(out.Sorts, m.Intn(len(to.Sorts)))
		}
	}
	for _, x := range s.Ops {
		y := api.Op{Name: "k" + strconv.Itoa(len(to.Ops)), Res: out.Sorts[x.Res]}
		for _, k := range x.Args {
			y.Args = append(y.Args, out.Sorts[k])
		}
		at := slices.IndexFunc(to.Ops, func(z api.Op) bool { return z.Res == y.Res && slices.Equal(z.Args, y.Args) })
		if at < 0 || m.Intn(2) == 0 {
			to.Ops = append(to.Ops, y)
			at = len(to.Ops) - 1
		}
		out.Ops = append(out.Ops, at)
	}
	return to, out
}

// copyOf returns a copy in memory of its own: lists without elements are kept apart from none.
func copyOf[T any](x T) T { return deep(reflect.ValueOf(x)).Interface().(T) }

func deep(x reflect.Value) reflect.Value {
	out := reflect.New(x.Type()).Elem()
	switch x.Kind() {
	case reflect.Slice:
		if x.IsNil() {
			return out
		}
		out.Set(reflect.MakeSlice(x.Type(), x.Len(), x.Len()))
		for i := range x.Len() {
			out.Index(i).Set(deep(x.Index(i)))
		}
	case reflect.Struct:
		for i := range x.NumField() {
			out.Field(i).Set(deep(x.Field(i)))
		}
	default:
		out.Set(x)
	}
	return out
}

// scribble writes over all numbers and marks that a value has in lists, up to their capacities.
func scribble(x reflect.Value, within bool) {
	switch x.Kind() {
	case reflect.Slice:
		x = x.Slice(0, x.Cap())
		for i := range x.Len() {
			scribble(x.Index(i), true)
		}
	case reflect.Struct:
		for i := range x.NumField() {
			scribble(x.Field(i), within)
		}
	case reflect.Int:
		if within {
			x.SetInt(x.Int() + 1000)
		}
	case reflect.Bool:
		if within {
			x.SetBool(!x.Bool())
		}
	case reflect.String:
		if within {
			x.SetString(x.String() + "!")
		}
	}
}

// plain returns a value without empty lists, so that nil and empty ones are the same.
func plain[T any](x T) T { return emptied(reflect.ValueOf(x)).Interface().(T) }

func emptied(x reflect.Value) reflect.Value {
	out := reflect.New(x.Type()).Elem()
	switch x.Kind() {
	case reflect.Slice:
		for i := range x.Len() {
			out.Set(reflect.Append(out, emptied(x.Index(i))))
		}
	case reflect.Struct:
		for i := range x.NumField() {
			out.Field(i).Set(emptied(x.Field(i)))
		}
	default:
		out.Set(x)
	}
	return out
}

func equal[T any](a, b T) bool { return reflect.DeepEqual(plain(a), plain(b)) }

func isZero[T any](x T) bool {
	var zero T
	return equal(x, zero)
}

// TestMakers checks that what is made at random is what it is for, and not always the same.
func TestMakers(t *testing.T) {
	m := newMaker(1)
	eqns, conds, unused := 0, 0, 0
	for range 2000 {
		x := m.typ()
		if sig.Check(x.Sig) != api.OK || types.Check(x) != api.OK {
			t.Fatalf("no type: %v", x)
		}
		eqns += len(x.Eqns)
		for _, e := range x.Eqns {
			conds += len(e.Conds)
			if len(e.Vars) > len(sig.Vars([]api.Term{e.A})) {
				unused++
			}
		}
	}
	if eqns < 2000 || conds < 500 || unused < 200 {
		t.Errorf("%d equations, %d conditions, %d with variables that do not occur", eqns, conds, unused)
	}
}
