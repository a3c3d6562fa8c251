package types_test

import (
	"strings"
	"testing"

	"madrigal/api"
	"madrigal/sig"
	"madrigal/types"
)

// eqnCases are equations over numbers, and what are none.
func eqnCases() []eqnCase {
	sorts := func(n int) []int { return make([]int, n) }
	pairs := func(n int, x api.Pair) []api.Pair {
		var out []api.Pair
		for range n {
			out = append(out, x)
		}
		return out
	}
	less := func(x, y api.Term) api.Term { return op(4, x, y) }
	zero, yes := op(0), op(2)
	same := api.Pair{A: zero, B: zero}
	return []eqnCase{
		{"no variables", api.Eqn{A: zero, B: op(1, zero)}, true},
		{"both sides the same", api.Eqn{A: zero, B: zero}, true},
		{"a variable on the right", api.Eqn{Vars: sorts(1), A: op(1, v(0)), B: v(0)}, true},
		{"a variable on the left", api.Eqn{Vars: sorts(1), A: v(0), B: op(1, v(0))}, false},
		{"only variables", api.Eqn{Vars: sorts(1), A: v(0), B: v(0)}, false},
		{"a variable that is not in A", api.Eqn{Vars: sorts(2), A: op(1, v(0)), B: v(1)}, false},
		{"a variable of a condition that is not in A", api.Eqn{Vars: sorts(2), Conds: []api.Pair{{A: v(0), B: v(1)}}, A: op(1, v(0)), B: v(0)}, false},
		{"a variable of a condition alone", api.Eqn{Vars: sorts(1), Conds: []api.Pair{{A: v(0), B: v(0)}}, A: zero, B: zero}, false},
		{"variables that do not occur", api.Eqn{Vars: []int{1, 0, 1}, A: op(1, v(1)), B: zero}, true},
		{"a variable without a sort", api.Eqn{Vars: sorts(1), A: less(v(0), v(1)), B: yes}, false},
		{"a variable below 0", api.Eqn{Vars: sorts(1), A: op(1, v(-1)), B: zero}, false},
		{"a right side below 0", api.Eqn{Vars: sorts(1), A: op(1, v(0)), B: v(-1)}, false},
		{"variables of another sort", api.Eqn{Vars: []int{1}, A: op(1, v(0)), B: zero}, false},
		{"a right side of another sort", api.Eqn{Vars: sorts(1), A: op(1, v(0)), B: yes}, false},
		{"a right variable of another sort", api.Eqn{Vars: []int{0, 1}, A: op(1, v(0)), B: v(1)}, false},
		{"a condition of two sorts", api.Eqn{Conds: []api.Pair{{A: zero, B: yes}}, A: zero, B: zero}, false},
		{"a second condition of two sorts", api.Eqn{Conds: []api.Pair{same, {A: yes, B: zero}}, A: zero, B: zero}, false},
		{"conditions of several sorts", api.Eqn{Conds: []api.Pair{same, {A: yes, B: yes}}, A: zero, B: zero}, true},
		{"a sort that there is not", api.Eqn{Vars: []int{2}, A: zero, B: zero}, false},
		{"a sort below 0", api.Eqn{Vars: []int{-1}, A: zero, B: zero}, false},
		{"64 variables", api.Eqn{Vars: sorts(64), A: op(1, v(63)), B: v(63)}, true},
		{"65 variables", api.Eqn{Vars: sorts(65), A: op(1, v(63)), B: v(63)}, false},
		{"8 conditions", api.Eqn{Conds: pairs(8, same), A: zero, B: zero}, true},
		{"9 conditions", api.Eqn{Conds: pairs(9, same), A: zero, B: zero}, false},
		{"an operation that there is not", api.Eqn{A: op(5), B: zero}, false},
		{"an operation below 0", api.Eqn{A: op(-1), B: zero}, false},
		{"an operation within", api.Eqn{A: op(1, op(9)), B: zero}, false},
		{"no term on the left", api.Eqn{B: zero}, false},
		{"no term on the right", api.Eqn{A: zero}, false},
		{"no terms in a condition", api.Eqn{Conds: []api.Pair{{}}, A: zero, B: zero}, false},
		{"too many arguments", api.Eqn{A: op(0, zero), B: zero}, false},
		{"too few arguments", api.Eqn{A: op(3), B: op(4, zero)}, false},
		{"a variable with elements", api.Eqn{Vars: sorts(1), A: op(1, v(0)), B: api.Term{Kind: api.KVar, L: []api.Term{zero}}}, false},
		{"200 deep", api.Eqn{A: high(1, 200, zero), B: zero}, true},
		{"201 deep", api.Eqn{A: zero, B: high(1, 201, zero)}, false},
		{"very deep", api.Eqn{A: high(1, 50000, zero), B: zero}, false},
		{"far too many nodes", api.Eqn{A: doubled(4, 200), B: zero}, false},
		{"nothing", api.Eqn{}, false},
	}
}

type eqnCase struct {
	name string
	e    api.Eqn
	is   bool
}

// P5.1
func TestCheckEquations(t *testing.T) {
	for _, x := range eqnCases() {
		want := api.ErrType
		if x.is {
			want = api.OK
		}
		s := numbers().Sig
		if err := types.Check(api.Type{Sig: s, Eqns: []api.Eqn{x.e}}); err != want {
			t.Errorf("Check, %s: %d", x.name, err)
		}
		if err := types.Check(api.Type{Sig: s, Eqns: append(numbers().Eqns, x.e, numbers().Eqns[0])}); err != want {
			t.Errorf("Check, %s, in between: %d", x.name, err)
		}
		e, err := types.Standard(s, x.e)
		if err != want || err != api.OK && !isZero(e) {
			t.Errorf("Standard, %s: %v %d", x.name, e, err)
		}
		e, err = types.ImageEqn(s, s, identity(s), x.e)
		if err != want || err != api.OK && !isZero(e) || err == api.OK && !equal(e, x.e) {
			t.Errorf("ImageEqn, %s: %v %d", x.name, e, err)
		}
	}
}

func identity(s api.Sig) api.Morph {
	m, _ := types.Identity(s)
	return m
}

// P5.1
func TestCheckTypes(t *testing.T) {
	two := numbers()
	two.Sig.Sorts[1] = "nat"
	chained := func(n int) api.Type {
		return api.Type{Sig: signature(names("a"), o("c", 0), o("f", 0, 0), o("g", 0, 0)), Eqns: chains(1, 2, 0, n)}
	}
	for _, x := range []struct {
		name string
		t    api.Type
		want api.Errno
	}{
		{"nothing", api.Type{}, api.OK},
		{"numbers", numbers(), api.OK},
		{"empty lists", api.Type{Sig: api.Sig{Sorts: []string{}, Ops: []api.Op{}}, Eqns: []api.Eqn{}}, api.OK},
		{"a sort twice", two, api.ErrType},
		{"an operation without sorts", api.Type{Sig: signature(nil, o("0", 0))}, api.ErrType},
		{"an equation without operations", api.Type{Sig: signature(names("a")), Eqns: []api.Eqn{{}}}, api.ErrType},
		{"64 sorts, 256 operations", api.Type{Sig: many("s", 64, "o", 256)}, api.OK},
		{"65 sorts", api.Type{Sig: many("s", 65, "o", 1)}, api.ErrType},
		{"257 operations", api.Type{Sig: many("s", 1, "o", 257)}, api.ErrType},
		{"400 equations", chained(400), api.OK},
		{"401 equations", chained(401), api.ErrType},
		{"an equation twice", api.Type{Sig: chained(1).Sig, Eqns: append(chained(1).Eqns, chained(1).Eqns...)}, api.OK},
	} {
		if err := types.Check(x.t); err != x.want {
			t.Errorf("%s: %d", x.name, err)
		}
	}
}

// P5.1
func TestCheckManySame(t *testing.T) {
	x := numbers()
	for len(x.Eqns) < 401 {
		x.Eqns = append(x.Eqns, x.Eqns[0])
	}
	if err := types.Check(x); err != api.ErrType {
		t.Errorf("401 equations that are the same: %d", err)
	}
	x.Eqns = x.Eqns[:400]
	if err := types.Check(x); err != api.OK {
		t.Errorf("400 equations that are the same: %d", err)
	}
}

// P5.1
func TestSame(t *testing.T) {
	if !types.Same(numbers(), numbers()) || !types.Same(api.Type{}, api.Type{}) {
		t.Error("numbers are not numbers")
	}
	empty := api.Type{Sig: api.Sig{Sorts: []string{}, Ops: []api.Op{}}, Eqns: []api.Eqn{}}
	if !types.Same(empty, api.Type{}) || !types.Same(api.Type{}, empty) {
		t.Error("nil and empty lists differ")
	}
	within := func(args []int, l []api.Term, vars []int, conds []api.Pair) api.Type {
		return api.Type{Sig: signature(names("a"), api.Op{Name: "c", Args: args}), Eqns: []api.Eqn{{Vars: vars, Conds: conds, A: op(0, l...), B: op(0, l...)}}}
	}
	if !types.Same(within(nil, nil, nil, nil), within([]int{}, []api.Term{}, []int{}, []api.Pair{})) {
		t.Error("nil and empty lists differ within")
	}
	for name, change := range differences() {
		x := numbers()
		change(&x)
		if types.Same(x, numbers()) || types.Same(numbers(), x) {
			t.Errorf("same: %s", name)
		}
		y := numbers()
		change(&y)
		if !types.Same(x, y) {
			t.Errorf("changed alike, not the same: %s", name)
		}
	}
}

// differences are changes to numbers, most of which make it no type.
func differences() map[string]func(t *api.Type) {
	return map[string]func(t *api.Type){
		"a name of a sort":     func(t *api.Type) { t.Sig.Sorts[1] = "nat" },
		"one more sort":        func(t *api.Type) { t.Sig.Sorts = append(t.Sig.Sorts, "") },
		"sorts in other order": func(t *api.Type) { t.Sig.Sorts[0], t.Sig.Sorts[1] = "bool", "nat" },
		"a name":               func(t *api.Type) { t.Sig.Ops[0].Name = "1" },
		"arguments":            func(t *api.Type) { t.Sig.Ops[0].Args = []int{-5} },
		"another argument":     func(t *api.Type) { t.Sig.Ops[4].Args = []int{0, 1} },
		"a result":             func(t *api.Type) { t.Sig.Ops[0].Res = 77 },
		"one operation less":   func(t *api.Type) { t.Sig.Ops = t.Sig.Ops[:4] },
		"one equation less":    func(t *api.Type) { t.Eqns = t.Eqns[:2] },
		"equations turned":     func(t *api.Type) { t.Eqns[0], t.Eqns[1] = t.Eqns[1], t.Eqns[0] },
		"a variable's sort":    func(t *api.Type) { t.Eqns[0].Vars[0] = 1 },
		"one more variable":    func(t *api.Type) { t.Eqns[0].Vars = append(t.Eqns[0].Vars, 0) },
		"a left side":          func(t *api.Type) { t.Eqns[0].A.L[0].N = 3 },
		"a right side":         func(t *api.Type) { t.Eqns[0].B.Kind = 7 },
		"one more condition":   func(t *api.Type) { t.Eqns[0].Conds = []api.Pair{{}} },
		"one condition less":   func(t *api.Type) { t.Eqns[3].Conds = nil },
		"a condition's left":   func(t *api.Type) { t.Eqns[3].Conds[0].A = v(1) },
		"a condition's right":  func(t *api.Type) { t.Eqns[3].Conds[0].B.L = nil },
		"a condition turned":   func(t *api.Type) { c := &t.Eqns[3].Conds[0]; c.A, c.B = c.B, c.A },
		"an equation turned":   func(t *api.Type) { e := &t.Eqns[2]; e.A, e.B = e.B, e.A },
		"other variable's name": func(t *api.Type) {
			e := &t.Eqns[2]
			e.A, e.B = renumbered(e.A, []int{1, 0}), renumbered(e.B, []int{1, 0})
		},
	}
}

// P5.1
func TestStandard(t *testing.T) {
	s := numbers().Sig
	for _, x := range []struct {
		name      string
		e, wanted api.Eqn
	}{
		{"nothing to do", numbers().Eqns[3], numbers().Eqns[3]},
		{"no variables", api.Eqn{A: op(0), B: op(0)}, api.Eqn{A: op(0), B: op(0)}},
		{"none that occurs", api.Eqn{Vars: []int{0, 1}, A: op(0), B: op(0)}, api.Eqn{A: op(0), B: op(0)}},
		{"turned", api.Eqn{Vars: []int{0, 0}, A: op(4, v(1), v(0)), B: op(4, v(0), v(1))}, api.Eqn{Vars: []int{0, 0}, A: op(4, v(0), v(1)), B: op(4, v(1), v(0))}},
		{"one left out", api.Eqn{Vars: []int{1, 1, 0}, A: op(1, v(2)), B: v(2)}, api.Eqn{Vars: []int{0}, A: op(1, v(0)), B: v(0)}},
		{"conditions in their order",
			api.Eqn{Vars: []int{0, 1, 0}, Conds: []api.Pair{{A: v(0), B: v(2)}, {A: v(0), B: op(0)}}, A: op(4, v(2), op(1, v(0))), B: op(4, v(0), v(2))},
			api.Eqn{Vars: []int{0, 0}, Conds: []api.Pair{{A: v(1), B: v(0)}, {A: v(1), B: op(0)}}, A: op(4, v(0), op(1, v(1))), B: op(4, v(1), v(0))}},
	} {
		if got, err := types.Standard(s, x.e); err != api.OK || !equal(got, x.wanted) {
			t.Errorf("%s: %v %d", x.name, got, err)
		}
	}
	// Sorts go with their variables.
	two := signature(names("a", "b"), o("f", 0, 1, 0, 0))
	got, err := types.Standard(two, api.Eqn{Vars: []int{0, 1, 0, 1}, A: op(0, v(2), v(3), v(0)), B: v(0)})
	if want := (api.Eqn{Vars: []int{0, 1, 0}, A: op(0, v(0), v(1), v(2)), B: v(2)}); err != api.OK || !equal(got, want) {
		t.Errorf("sorts: %v %d", got, err)
	}
}

// P5.1
func TestStandardWrongSignature(t *testing.T) {
	s := numbers().Sig
	s.Sorts = append(s.Sorts, strings.Repeat("x", 33))
	if e, err := types.Standard(s, numbers().Eqns[0]); err != api.ErrType || !isZero(e) {
		t.Errorf("%v %d", e, err)
	}
	if e, err := types.Standard(many("s", 1, "o", 257), api.Eqn{A: op(0), B: op(0)}); err != api.ErrType || !isZero(e) {
		t.Errorf("%v %d", e, err)
	}
}

// isStandard reports whether an equation's variables are exactly those of A, numbered by their first occurrence.
func isStandard(e api.Eqn) bool {
	vars := sig.Vars([]api.Term{e.A})
	for i, n := range vars {
		if i != n {
			return false
		}
	}
	return len(vars) == len(e.Vars)
}

// P5.1
func TestStandardAtRandom(t *testing.T) {
	m := newMaker(2)
	done := 0
	for done < 3000 {
		s := m.sig()
		e, is := m.eqn(s)
		if !is {
			continue
		}
		done++
		got, err := types.Standard(s, e)
		if err != api.OK || !isStandard(got) || types.Check(api.Type{Sig: s, Eqns: []api.Eqn{got}}) != api.OK {
			t.Fatalf("%v is made %v: %d", e, got, err)
		}
		if again, _ := types.Standard(s, got); !equal(again, got) {
			t.Fatalf("%v is made %v again", got, again)
		}
		if other, _ := types.Standard(s, m.mixed(s, e)); !equal(other, got) {
			t.Fatalf("%v: %v, and in other order %v", e, got, other)
		}
		// Put back, it is what it was.
		var back []int
		for _, n := range sig.Vars([]api.Term{e.A}) {
			back = append(back, n)
		}
		if !sig.Same(renumbered(got.A, back), e.A) || !sig.Same(renumbered(got.B, back), e.B) || len(got.Conds) != len(e.Conds) {
			t.Fatalf("%v is made %v", e, got)
		}
		for i, c := range got.Conds {
			if !sig.Same(renumbered(c.A, back), e.Conds[i].A) || !sig.Same(renumbered(c.B, back), e.Conds[i].B) {
				t.Fatalf("%v is made %v", e, got)
			}
		}
		for i, n := range back {
			if got.Vars[i] != e.Vars[n] {
				t.Fatalf("%v is made %v", e, got)
			}
		}
	}
}
