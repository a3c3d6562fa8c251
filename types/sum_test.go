package types_test

import (
	"fmt"
	"slices"
	"sort"
	"strings"
	"testing"

	"madrigal/api"
	"madrigal/types"
)

// faceOf returns an operation's name and the names of its sorts.
func faceOf(s api.Sig, x api.Op) string {
	var args []string
	for _, k := range x.Args {
		args = append(args, s.Sorts[k])
	}
	return x.Name + ":" + strings.Join(args, " ") + ">" + s.Sorts[x.Res]
}

func faces(s api.Sig) []string {
	var out []string
	for _, x := range s.Ops {
		out = append(out, faceOf(s, x))
	}
	return out
}

// text returns a term with names of operations, and numbers of variables.
func text(s api.Sig, x api.Term) string {
	if x.Kind == api.KVar {
		return fmt.Sprint("v", x.N)
	}
	out := faceOf(s, s.Ops[x.N]) + "("
	for _, y := range x.L {
		out += text(s, y) + ","
	}
	return out + ")"
}

func eqnText(s api.Sig, e api.Eqn) string {
	var out []string
	for _, k := range e.Vars {
		out = append(out, s.Sorts[k])
	}
	for _, c := range e.Conds {
		out = append(out, text(s, c.A)+"="+text(s, c.B)+"=>")
	}
	return strings.Join(append(out, text(s, e.A)+"="+text(s, e.B)), " ")
}

// eqnTexts returns the texts of equations, made standard.
func eqnTexts(t api.Type) []string {
	var out []string
	for _, e := range t.Eqns {
		e, _ = types.Standard(t.Sig, e)
		out = append(out, eqnText(t.Sig, e))
	}
	return out
}

// once returns each string where it comes first.
func once(l ...string) []string {
	var out []string
	for _, x := range l {
		if !slices.Contains(out, x) {
			out = append(out, x)
		}
	}
	return out
}

func sorted(l []string) []string {
	out := slices.Clone(l)
	sort.Strings(out)
	return out
}

// P5.3
func TestSum(t *testing.T) {
	b := api.Type{
		Sig: signature(names("int", "bool", "nat"), o("0", 0), o("0", 2), o("not", 1, 1), o("_<_", 2, 2, 1), o("_<_", 0, 0, 1), o("_<_", 2, 1)),
		Eqns: []api.Eqn{
			{Vars: []int{2, 0}, A: op(3, v(0), op(1)), B: op(5, op(1))},
			{Vars: []int{1, 2}, A: op(3, v(1), op(1)), B: op(5, v(1))},
		},
	}
	b.Sig.Ops[5].Name = "even"
	s, m, n, err := types.Sum(numbers(), b)
	if err != api.OK || types.Check(s) != api.OK {
		t.Fatalf("%v %d", s, err)
	}
	if !slices.Equal(s.Sig.Sorts, names("nat", "bool", "int")) {
		t.Errorf("sorts %v", s.Sig.Sorts)
	}
	if want := names("0:>nat", "s:nat>nat", "true:>bool", "false:>bool", "_<_:nat nat>bool", "0:>int", "not:bool>bool", "_<_:int int>bool", "even:nat>bool"); !slices.Equal(faces(s.Sig), want) {
		t.Errorf("operations %v", faces(s.Sig))
	}
	if !equal(m, api.Morph{Sorts: []int{0, 1}, Ops: []int{0, 1, 2, 3, 4}}) || !equal(n, api.Morph{Sorts: []int{2, 1, 0}, Ops: []int{5, 0, 6, 4, 7, 8}}) {
		t.Errorf("morphisms %v %v", m, n)
	}
	want := append(numbers().Eqns, api.Eqn{Vars: []int{0}, A: op(4, v(0), op(0)), B: op(8, op(0))}, api.Eqn{Vars: []int{0}, A: op(4, v(0), op(0)), B: op(8, v(0))})
	if !equal(s.Eqns, want) {
		t.Errorf("equations %v", s.Eqns)
	}
}

// P5.3
func TestSumOfSame(t *testing.T) {
	x := numbers()
	x.Eqns = append(x.Eqns, api.Eqn{Vars: []int{1, 0, 0}, A: op(4, op(1, v(2)), op(1, v(1))), B: op(4, v(2), v(1))}, x.Eqns[0])
	for _, two := range [][2]api.Type{{x, numbers()}, {numbers(), x}, {x, x}, {x, {}}, {{}, x}} {
		s, _, _, err := types.Sum(two[0], two[1])
		if err != api.OK || !types.Same(s, numbers()) {
			t.Errorf("%v %d", s, err)
		}
	}
	s, m, n, err := types.Sum(api.Type{}, api.Type{})
	if err != api.OK || !isZero(s) || !isZero(m) || !isZero(n) {
		t.Errorf("of nothing: %v %d", s, err)
	}
}

// P5.3
func TestSumTellsApart(t *testing.T) {
	// The same variables, conditions or sides are not enough for the same equation.
	s := signature(names("a", "b"), o("c", 0), o("f", 0, 0), o("c", 1), o("g", 0, 0, 0), o("f", 1, 0), o("f", 0, 0, 0))
	pair := func(x, y api.Term) []api.Pair { return []api.Pair{{A: x, B: y}} }
	one := []int{0}
	eqns := []api.Eqn{
		{A: op(1, op(0)), B: op(0)},
		{A: op(4, op(2)), B: op(0)},
		{A: op(0), B: op(1, op(0))},
		{A: op(1, op(0)), B: op(0), Conds: pair(op(0), op(0))},
		{A: op(1, op(0)), B: op(0), Conds: append(pair(op(0), op(0)), pair(op(0), op(0))...)},
		{A: op(1, op(0)), B: op(0), Conds: pair(op(1, op(0)), op(0))},
		{A: op(1, op(0)), B: op(0), Conds: pair(op(0), op(1, op(0)))},
		{Vars: one, A: op(1, v(0)), B: op(0)},
		{Vars: one, A: op(1, v(0)), B: v(0)},
		{Vars: []int{1}, A: op(4, v(0)), B: op(0)},
		{Vars: []int{0, 0}, A: op(3, v(0), v(1)), B: v(0)},
		{Vars: []int{0, 0}, A: op(3, v(0), v(1)), B: v(1)},
		{Vars: one, A: op(3, v(0), v(0)), B: v(0)},
		{Vars: []int{0, 0}, A: op(5, v(0), v(1)), B: v(0)},
	}
	x, y := api.Type{Sig: s, Eqns: eqns}, api.Type{Sig: s, Eqns: slices.Clone(eqns)}
	slices.Reverse(y.Eqns)
	got, _, _, err := types.Sum(x, y)
	if err != api.OK || !types.Same(got, x) {
		t.Errorf("%v %d", got, err)
	}
}

// P5.3
func TestSumErrors(t *testing.T) {
	wrong := numbers()
	wrong.Eqns[0].B = v(1)
	typ := func(s api.Sig) api.Type { return api.Type{Sig: s} }
	chained := func(f, g string, n int) api.Type {
		return api.Type{Sig: signature(names("a"), o("c", 0), o(f, 0, 0), o(g, 0, 0)), Eqns: chains(1, 2, 0, n)}
	}
	for _, x := range []struct {
		name string
		a, b api.Type
		want api.Errno
	}{
		{"the first is none", wrong, numbers(), api.ErrType},
		{"the second is none", numbers(), wrong, api.ErrType},
		{"the second is none, and too much", typ(many("a", 64, "f", 1)), typ(many("b", 65, "f", 1)), api.ErrType},
		{"64 sorts", typ(many("a", 30, "f", 1)), typ(many("b", 34, "f", 1)), api.OK},
		{"65 sorts", typ(many("a", 30, "f", 1)), typ(many("b", 35, "f", 1)), api.ErrLimit},
		{"64 sorts again", typ(many("a", 64, "f", 1)), typ(many("a", 64, "f", 1)), api.OK},
		{"256 operations", typ(many("a", 1, "f", 200)), typ(many("a", 1, "g", 56)), api.OK},
		{"257 operations", typ(many("a", 1, "f", 200)), typ(many("a", 1, "g", 57)), api.ErrLimit},
		{"operations of two sorts", typ(many("a", 1, "f", 200)), typ(many("b", 1, "f", 57)), api.ErrLimit},
		{"400 equations", chained("f", "g", 200), chained("g", "h", 200), api.OK},
		{"401 equations", chained("f", "g", 200), chained("g", "h", 201), api.ErrLimit},
		{"400 equations again", chained("f", "g", 400), chained("f", "g", 400), api.OK},
	} {
		s, m, n, err := types.Sum(x.a, x.b)
		if err != x.want || err != api.OK && !(isZero(s) && isZero(m) && isZero(n)) || err == api.OK && types.Check(s) != api.OK {
			t.Errorf("%s: %d", x.name, err)
		}
	}
}

// P5.3, P5.8, P5.9
func TestSumAtRandom(t *testing.T) {
	r := newMaker(5)
	for range 1500 {
		a, b, c := r.typ(), r.typ(), r.typ()
		s, m, n, err := types.Sum(a, b)
		if err != api.OK || types.Check(s) != api.OK {
			t.Fatalf("%v and %v: %d", a, b, err)
		}
		// The parts by names, in order.
		if want := once(append(slices.Clone(a.Sig.Sorts), b.Sig.Sorts...)...); !slices.Equal(s.Sig.Sorts, want) {
			t.Fatalf("sorts %v, not %v", s.Sig.Sorts, want)
		}
		if want := once(append(faces(a.Sig), faces(b.Sig)...)...); !slices.Equal(faces(s.Sig), want) {
			t.Fatalf("operations %v, not %v", faces(s.Sig), want)
		}
		if want := once(append(eqnTexts(a), eqnTexts(b)...)...); !slices.Equal(eqnTexts(s), want) {
			t.Fatalf("equations %v, not %v", eqnTexts(s), want)
		}
		if slices.ContainsFunc(s.Eqns, func(e api.Eqn) bool { return !isStandard(e) }) {
			t.Fatalf("not standard: %v", s.Eqns)
		}
		keepsNames(t, a.Sig, s.Sig, m)
		keepsNames(t, b.Sig, s.Sig, n)
		// In the other order.
		u, _, _, err := types.Sum(b, a)
		if err != api.OK || !sameButNumbers(s, u) {
			t.Fatalf("%v in other order is %v", s, u)
		}
		// Three, from the left and from the right.
		left, _, _, err := types.Sum(s, c)
		bc, _, _, err2 := types.Sum(b, c)
		right, _, _, err3 := types.Sum(a, bc)
		if err != api.OK || err2 != api.OK || err3 != api.OK || !types.Same(left, right) {
			t.Fatalf("%v, but %v", left, right)
		}
		// With itself.
		x, _, _, err := types.Sum(a, a)
		want, _, _, _ := types.Sum(a, api.Type{})
		if err != api.OK || !types.Same(x, want) || !equal(x.Sig, a.Sig) || !slices.Equal(eqnTexts(x), once(eqnTexts(a)...)) {
			t.Fatalf("%v with itself is %v", a, x)
		}
	}
}

func sameButNumbers(a, b api.Type) bool {
	return slices.Equal(sorted(a.Sig.Sorts), sorted(b.Sig.Sorts)) && slices.Equal(sorted(faces(a.Sig)), sorted(faces(b.Sig))) && slices.Equal(sorted(eqnTexts(a)), sorted(eqnTexts(b)))
}

// keepsNames checks that m is a morphism that keeps all names; so parts with the same name become the same.
func keepsNames(t *testing.T, from, to api.Sig, m api.Morph) {
	t.Helper()
	if err := types.CheckMorph(from, to, m); err != api.OK {
		t.Fatalf("no morphism: %v", m)
	}
	for i, k := range m.Sorts {
		if from.Sorts[i] != to.Sorts[k] {
			t.Fatalf("the sort %s becomes %s", from.Sorts[i], to.Sorts[k])
		}
	}
	for i, k := range m.Ops {
		if faceOf(from, from.Ops[i]) != faceOf(to, to.Ops[k]) {
			t.Fatalf("the operation %v becomes %v", from.Ops[i], to.Ops[k])
		}
	}
}
