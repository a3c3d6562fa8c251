package paths_test

import (
	"testing"

	"madrigal/api"
	"madrigal/paths"
)

// P6.1
func TestCheckOrder(t *testing.T) {
	few := flat(0, 1, 2)
	full := api.Sig{Sorts: []string{"nat"}}
	distinct := api.Order{}
	for i := range api.MaxOps {
		full.Ops = append(full.Ops, api.Op{Name: string(rune('a'+i%26)) + string(rune('a'+i/26))})
		distinct.Place, distinct.Status = append(distinct.Place, i), append(distinct.Status, i%3+1)
	}
	for i, c := range []struct {
		s    api.Sig
		o    api.Order
		want api.Errno
	}{
		{few, order(1, 0, 0, 1), api.OK}, {few, order(2, 0, 0, 1), api.OK}, {few, order(3, 0, 0, 1), api.OK},
		{few, order(0, 0, 0, 1), api.ErrOrder}, {few, order(4, 0, 0, 1), api.ErrOrder}, {few, order(-1, 0, 0, 1), api.ErrOrder},
		{few, order(1, 255, 0, 255), api.OK}, {few, order(1, 256, 0, 1), api.ErrOrder}, {few, order(1, 0, 0, -1), api.ErrOrder},
		{few, order(1, 0, 1<<63-1, 0), api.ErrOrder}, {few, order(1, 0, -1<<63, 0), api.ErrOrder},
		{few, order(1, 0, 0), api.ErrOrder}, {few, order(1, 0, 0, 1, 2), api.ErrOrder}, {few, api.Order{}, api.ErrOrder},
		{few, api.Order{Place: []int{0, 1, 2}, Status: []int{1, 2, 3}}, api.OK},
		{few, api.Order{Place: []int{0, 1, 2}, Status: []int{1, 2}}, api.ErrOrder},
		{few, api.Order{Place: []int{0, 1, 2}, Status: []int{1, 2, 3, 1}}, api.ErrOrder},
		{few, api.Order{Place: []int{0, 1}, Status: []int{1, 2, 3}}, api.ErrOrder},
		{few, api.Order{Place: []int{0, 1, 0}, Status: []int{1, 2, 1}}, api.OK},
		{few, api.Order{Place: []int{0, 1, 0}, Status: []int{1, 2, 2}}, api.ErrOrder},
		{few, api.Order{Place: []int{7, 7, 7}, Status: []int{3, 3, 2}}, api.ErrOrder},
		{api.Sig{}, api.Order{}, api.OK}, {api.Sig{}, api.Order{Place: []int{}, Status: []int{}}, api.OK}, {api.Sig{}, order(1, 0), api.ErrOrder},
		{full, distinct, api.OK},
		{api.Sig{Sorts: []string{""}}, api.Order{}, api.ErrSig}, {api.Sig{Sorts: []string{"_"}}, order(9, 9), api.ErrSig},
	} {
		if err := paths.CheckOrder(c.s, c.o); err != c.want {
			t.Errorf("CheckOrder %d: %d, not %d", i, err, c.want)
		}
	}
}

// all calls the functions that compare terms. It returns their errors, each one once; kept are results that come with an error.
func all(x api.Sig, o api.Order, a, b api.Term) (errs map[api.Errno]bool, kept bool) {
	gr, e1 := paths.Greater(x, o, a, b)
	eq, e2 := paths.Equal(x, o, a, b)
	p, is, e3 := paths.Prove(x, o, a, b)
	e4 := paths.Verify(x, o, a, b, api.PathProof{})
	l, e5 := paths.Sort(x, o, []api.Term{a, b})
	return map[api.Errno]bool{e1: true, e2: true, e3: true, e4: true, e5: true}, gr || eq || is || !isNone(p) || len(l) > 0
}

// P6.1, P6.2, P6.4: the error of the signature, then of the order, then of terms.
func TestErrors(t *testing.T) {
	few, wrongSig := flat(0, 1, 2), api.Sig{Sorts: []string{"a", "a"}}
	o, wrong := order(1, 0, 0, 1), order(1, 0, 0)
	none := api.Term{}
	for i, c := range []struct {
		s    api.Sig
		o    api.Order
		a, b api.Term
		want api.Errno
	}{
		{wrongSig, api.Order{}, v(0), v(0), api.ErrSig}, {wrongSig, wrong, none, none, api.ErrSig},
		{few, wrong, v(0), v(0), api.ErrOrder}, {few, wrong, none, none, api.ErrOrder},
		{few, o, none, v(0), api.ErrTerm}, {few, o, v(0), none, api.ErrTerm}, {few, o, s(v(0)), none, api.ErrTerm},
	} {
		if errs, kept := all(c.s, c.o, c.a, c.b); len(errs) != 1 || !errs[c.want] || kept {
			t.Errorf("%d: %v %v, not %d", i, errs, kept, c.want)
		}
	}
	for i, x := range wrongTerms() {
		for _, l := range [][2]api.Term{{x, zero()}, {zero(), x}, {x, x}} {
			if errs, kept := all(few, o, l[0], l[1]); len(errs) != 1 || !errs[api.ErrTerm] || kept {
				t.Errorf("wrong term %d: %v %v", i, errs, kept)
			}
		}
	}
}

// P6.1: terms are compared whatever their sorts and variables are.
func TestAnySorts(t *testing.T) {
	x := api.Sig{Sorts: []string{"nat", "bool"}, Ops: []api.Op{{Name: "z"}, {Name: "true", Res: 1}, {Name: "not", Args: []int{1}, Res: 1}, {Name: "is", Args: []int{0, 1}, Res: 1}}}
	o := order(api.ByLeft, 0, 1, 2, 3)
	const far = 1<<63 - 1
	for i, c := range []struct {
		a, b   api.Term
		gr, eq bool
	}{
		{op(2, zero()), zero(), true, false},
		{op(3, op(1), zero()), op(2, op(2, zero())), true, false},
		{op(1), zero(), true, false},
		{op(3, v(0), v(0)), v(0), true, false},
		{v(far), v(far), false, true}, {v(far), v(far - 1), false, false}, {op(2, v(far)), v(far), true, false},
		{op(2, v(0)), v(64), false, false}, {op(3, v(64), v(1)), op(3, v(0), v(1)), false, false}, {op(3, v(0), v(64)), op(2, v(64)), true, false},
		{op(2, api.Term{Kind: api.KVar, L: []api.Term{}}), api.Term{Kind: api.KVar}, true, false},
		{api.Term{Kind: api.KOp, L: []api.Term{}}, zero(), false, true},
	} {
		gr, e1 := paths.Greater(x, o, c.a, c.b)
		eq, e2 := paths.Equal(x, o, c.a, c.b)
		if gr != c.gr || eq != c.eq || e1 != api.OK || e2 != api.OK {
			t.Errorf("%d: %v %v %d %d", i, gr, eq, e1, e2)
		}
	}
	// Without sorts, variables are all there is.
	if eq, err := paths.Equal(api.Sig{}, api.Order{}, v(3), v(3)); !eq || err != api.OK {
		t.Errorf("variables: %v %d", eq, err)
	}
}

// P6.1: the chapter's examples, and others.
func TestGreater(t *testing.T) {
	x, y, z := v(0), v(1), zero()
	o, m := examples()
	right := order(api.ByRight, 0, 1, 2)
	same, sameRight, sameMulti := order(1, 0, 0, 0), order(2, 0, 0, 0), order(3, 0, 0, 0)
	for i, c := range []struct {
		o      api.Order
		a, b   api.Term
		gr, eq bool
	}{
		{o, add(x, s(y)), s(add(x, y)), true, false}, {o, s(add(x, y)), add(x, s(y)), false, false},
		{o, s(x), x, true, false}, {o, x, z, false, false}, {o, s(z), z, true, false}, {o, z, x, false, false},
		{o, add(x, y), add(y, x), false, false}, {m, add(x, y), add(y, x), false, true},
		{m, add(s(x), y), add(y, x), true, false}, {m, add(y, s(x)), add(y, x), true, false},
		// Places.
		{o, add(x, y), s(s(s(add(x, y)))), false, false}, {o, add(x, s(y)), s(s(s(y))), true, false}, {o, add(x, y), s(v(2)), false, false},
		// From the left, from the right: what is behind does not count, but has to be less than the whole.
		{o, add(s(x), y), add(x, s(s(y))), true, false}, {right, add(s(x), y), add(x, s(s(y))), false, false}, {right, add(s(s(x)), y), add(s(x), s(y)), false, false},
		{right, add(x, s(y)), add(s(s(x)), y), true, false}, {o, add(x, s(y)), add(s(s(x)), y), false, false},
		{o, add(s(x), y), add(x, v(2)), false, false}, {o, add(s(x), y), add(x, add(s(x), y)), false, false},
		{o, add(x, s(y)), add(x, y), true, false}, {right, add(s(x), y), add(x, y), true, false},
		// Equal places, and other numbers of arguments.
		{same, add(x, y), s(x), true, false}, {same, add(x, y), s(y), false, false}, {sameRight, add(x, y), s(y), true, false}, {sameRight, add(x, y), s(x), false, false},
		{same, s(x), z, true, false}, {same, s(x), add(x, y), false, false}, {same, s(s(x)), add(x, x), true, false}, {same, s(s(x)), add(x, s(s(x))), false, false},
		{sameMulti, s(x), z, true, false}, {sameMulti, add(x, y), s(y), true, false}, {sameMulti, add(x, y), s(x), true, false}, {sameMulti, s(s(x)), add(x, x), true, false}, {sameMulti, s(s(x)), add(s(x), x), false, false},
		// Multisets: pairs first.
		{m, add(x, x), add(x, y), false, false}, {m, add(x, x), add(x, x), false, true}, {m, add(s(x), x), add(x, x), true, false}, {m, add(s(x), s(x)), add(s(x), x), true, false},
		{m, add(s(s(z)), z), add(s(z), s(z)), true, false}, {m, add(s(z), s(z)), add(s(s(z)), z), false, false}, {m, add(s(x), y), add(s(x), s(y)), false, false},
		{m, add(add(x, y), z), add(z, add(y, x)), false, true}, {m, s(add(x, y)), s(add(y, x)), false, true}, {m, s(add(x, y)), add(y, x), true, false},
	} {
		gr, e1 := paths.Greater(nat().Sig, c.o, c.a, c.b)
		eq, e2 := paths.Equal(nat().Sig, c.o, c.a, c.b)
		if gr != c.gr || eq != c.eq || e1 != api.OK || e2 != api.OK {
			t.Errorf("%d: %v %v: %v %v %d %d", i, c.a, c.b, gr, eq, e1, e2)
		}
	}
}

// P6.1: operations with equal places are as one, if they have as many arguments.
func TestEqualPlaces(t *testing.T) {
	x := flat(0, 0, 1, 1, 2, 2)
	for status := api.ByLeft; status <= api.ByMulti; status++ {
		o := order(status, 0, 0, 1, 1, 1, 1)
		for i, c := range []struct {
			a, b   api.Term
			gr, eq bool
		}{
			{op(0), op(1), false, true}, {op(2, op(0)), op(3, op(1)), false, true}, {op(2, op(2, v(0))), op(3, v(0)), true, false}, {op(4, v(0), op(0)), op(5, v(0), op(1)), false, true},
			{op(4, v(0), v(1)), op(5, v(1), v(0)), false, status == api.ByMulti}, {op(2, op(0)), op(1), true, false}, {op(3, v(0)), op(2, v(1)), false, false},
		} {
			gr, _ := paths.Greater(x, o, c.a, c.b)
			eq, _ := paths.Equal(x, o, c.a, c.b)
			if gr != c.gr || eq != c.eq {
				t.Errorf("status %d, %d: %v %v", status, i, gr, eq)
			}
		}
	}
}

// P6.1: all small terms, by many orders.
func TestAllSmall(t *testing.T) {
	x := nat().Sig
	l := small(3, 0)
	m := newMaker(2)
	orders := ordersFor(3, []int{0, 1, 2})
	m.Shuffle(len(orders), func(i, j int) { orders[i], orders[j] = orders[j], orders[i] })
	met := [2]int{}
	for _, o := range orders[:40] {
		for _, a := range l {
			for _, b := range l {
				gr, e1 := paths.Greater(x, o, a, b)
				eq, e2 := paths.Equal(x, o, a, b)
				if gr != (teller{o}).greater(a, b) || eq != (teller{o}).equal(a, b) || e1 != api.OK || e2 != api.OK {
					t.Fatalf("by %v, %v and %v: %v %v %d %d", o, a, b, gr, eq, e1, e2)
				}
				if gr {
					met[0]++
				}
				if eq {
					met[1]++
				}
			}
		}
	}
	if met[0] < 50000 || met[1] < 3000 {
		t.Errorf("%v", met)
	}
}

// P6.1: terms that are alike, over operations with up to 8 arguments.
func TestAtRandom(t *testing.T) {
	m := newMaker(3)
	x := flat(0, 0, 1, 1, 2, 2, 3, 3, 5, 8)
	greater, equal := map[bool]int{}, map[bool]int{}
	for range 30000 {
		o := m.order(x, pick(m, 1, 2, 4, 256))
		a, b := m.two(x, 1+m.Intn(9), m.Intn(4))
		gr, e1 := paths.Greater(x, o, a, b)
		eq, e2 := paths.Equal(x, o, a, b)
		if gr != (teller{o}).greater(a, b) || eq != (teller{o}).equal(a, b) || e1 != api.OK || e2 != api.OK {
			t.Fatalf("by %v, %v and %v: %v %v %d %d", o, a, b, gr, eq, e1, e2)
		}
		greater[gr]++
		equal[eq]++
	}
	if greater[true] < 5000 || greater[false] < 5000 || equal[true] < 3000 {
		t.Errorf("%v %v", greater, equal)
	}
}

// P6.1: terms at the limits.
func TestGreatTerms(t *testing.T) {
	o, _ := examples()
	many := order(api.ByMulti, 0, 0, 0)
	long := order(api.ByLeft, 0, 1, 1)
	for i, c := range []struct {
		o      api.Order
		a, b   api.Term
		gr, eq bool
	}{
		{o, high(199, zero()), high(198, zero()), true, false}, {o, high(199, v(0)), v(0), true, false}, {o, high(199, v(0)), high(199, v(0)), false, true},
		{o, high(198, v(0)), high(199, v(0)), false, false}, {o, high(199, v(0)), high(100, v(1)), false, false},
		{o, wide(1999), high(199, zero()), true, false}, {long, wide(1999), wide(1997), true, false}, {many, wide(1999), wide(1999), false, true},
		{many, add(wide(999), wide(901)), add(wide(901), wide(999)), false, true}, {many, add(wide(997), wide(901)), add(wide(901), wide(999)), false, false},
		{o, add(high(198, v(0)), high(198, v(1))), high(198, add(v(0), v(1))), true, false},
	} {
		gr, e1 := paths.Greater(nat().Sig, c.o, c.a, c.b)
		eq, e2 := paths.Equal(nat().Sig, c.o, c.a, c.b)
		if gr != c.gr || eq != c.eq || e1 != api.OK || e2 != api.OK {
			t.Errorf("%d: %v %v %d %d", i, gr, eq, e1, e2)
		}
	}
}
