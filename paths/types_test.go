package paths_test

import (
	"slices"
	"testing"

	"madrigal/api"
	"madrigal/paths"
	"madrigal/types"
)

// P6.3: the chapter's examples, and others.
func TestCheckAndBlame(t *testing.T) {
	n := nat()
	o, m := examples()
	x, y := v(0), v(1)
	one, two := []int{0}, []int{0, 0}
	with := func(l ...api.Eqn) api.Type { return api.Type{Sig: n.Sig, Eqns: l} }
	good := n.Eqns[0]
	swap := api.Eqn{Vars: two, A: add(x, y), B: add(y, x)}
	for i, c := range []struct {
		t    api.Type
		o    api.Order
		at   int
		is   bool
		fail api.Errno // of Check; Blame's is OK if it is ErrOrder with an equation
	}{
		{n, o, 0, false, api.OK}, {n, m, 0, false, api.OK}, {n, order(1, 0, 0, 0), 1, true, api.ErrOrder}, {n, order(1, 2, 1, 0), 1, true, api.ErrOrder}, {with(), order(3, 9, 9, 9), 0, false, api.OK},
		{with(swap), o, 0, true, api.ErrOrder}, {with(swap), m, 0, true, api.ErrOrder}, {with(good, good, swap, good, swap), o, 2, true, api.ErrOrder},
		{with(api.Eqn{A: s(zero()), B: s(zero())}), o, 0, true, api.ErrOrder}, {with(api.Eqn{A: zero(), B: s(zero())}), o, 0, true, api.ErrOrder},
		// Both sides of all conditions count.
		{with(api.Eqn{Vars: two, Conds: []api.Pair{{A: s(x), B: y}}, A: add(x, y), B: x}), o, 0, false, api.OK},
		{with(good, api.Eqn{Vars: two, Conds: []api.Pair{{A: add(y, x), B: y}}, A: add(x, y), B: x}), o, 1, true, api.ErrOrder},
		{with(good, api.Eqn{Vars: two, Conds: []api.Pair{{A: x, B: add(y, x)}}, A: add(x, y), B: x}), o, 1, true, api.ErrOrder},
		{with(good, api.Eqn{Vars: two, Conds: []api.Pair{{A: x, B: y}, {A: s(s(y)), B: y}, {A: x, B: add(x, y)}}, A: add(x, y), B: x}), o, 1, true, api.ErrOrder},
		{with(api.Eqn{Vars: one, Conds: []api.Pair{{A: x, B: x}}, A: s(x), B: s(x)}), o, 0, true, api.ErrOrder},
		// Errors.
		{n, order(1, 0, 0), 0, false, api.ErrOrder}, {n, order(0, 0, 0, 1), 0, false, api.ErrOrder}, {with(swap), order(1, 256, 0, 0), 0, false, api.ErrOrder},
		{with(api.Eqn{Vars: two, A: add(x, x), B: y}), o, 0, false, api.ErrType}, {with(api.Eqn{Vars: one, A: x, B: zero()}), order(0), 0, false, api.ErrType}, {api.Type{Sig: api.Sig{Sorts: []string{""}}}, api.Order{}, 0, false, api.ErrType},
		{with(slices.Repeat([]api.Eqn{good}, api.MaxEqns)...), o, 0, false, api.OK}, {with(slices.Repeat([]api.Eqn{good}, api.MaxEqns+1)...), o, 0, false, api.ErrType},
		{with(append(slices.Repeat([]api.Eqn{good}, api.MaxEqns-1), swap)...), o, 399, true, api.ErrOrder}, {api.Type{}, api.Order{}, 0, false, api.OK},
	} {
		want := c.fail
		if c.is {
			want = api.OK
		}
		at, is, err := paths.Blame(c.t, c.o)
		if at != c.at || is != c.is || err != want {
			t.Errorf("Blame %d: %d %v %d", i, at, is, err)
		}
		if err := paths.Check(c.t, c.o); err != c.fail {
			t.Errorf("Check %d: %d", i, err)
		}
	}
}

// P6.3, P6.10
func TestBlameAtRandom(t *testing.T) {
	m := newMaker(7)
	x := flat(0, 0, 1, 1, 2, 2, 3)
	met := map[bool]int{}
	behind := 0
	for range 8000 {
		y := m.typ(x, 4)
		o := m.order(x, pick(m, 1, 3, 200))
		want := teller{o}.blame(y)
		at, is, err := paths.Blame(y, o)
		check := paths.Check(y, o)
		if err != api.OK || is != (want >= 0) || is && (at != want || check != api.ErrOrder) || !is && (at != 0 || check != api.OK) {
			t.Fatalf("by %v, %v: %d %v %d %d, not %d", o, y, at, is, err, check, want)
		}
		met[is]++
		if at > 0 {
			behind++
		}
		// Those ahead decrease; it alone does not; without some, those that decreased still do.
		if is && (paths.Check(api.Type{Sig: x, Eqns: y.Eqns[:at]}, o) != api.OK || paths.Check(api.Type{Sig: x, Eqns: y.Eqns[at : at+1]}, o) != api.ErrOrder) {
			t.Fatalf("by %v, %v: %d is blamed", o, y, at)
		}
		less := api.Type{Sig: x}
		for _, e := range y.Eqns {
			if m.Intn(2) == 0 {
				less.Eqns = append(less.Eqns, e)
			}
		}
		if !is && paths.Check(less, o) != api.OK {
			t.Fatalf("by %v, %v, but not %v", o, y, less)
		}
	}
	if met[true] < 1000 || met[false] < 1000 || behind < 300 {
		t.Errorf("%v %d", met, behind)
	}
}

// P6.4: the chapter's example, and others.
func TestFind(t *testing.T) {
	n := nat()
	x, y, z := v(0), v(1), zero()
	two := []int{0, 0}
	more := flat(0, 1, 2, 1, 0, 2)
	right := order(api.ByLeft, 255, 0, 1, 255, 255, 255)
	right.Status[2] = api.ByRight
	with := func(l ...api.Eqn) api.Type { return api.Type{Sig: more, Eqns: l} }
	is := func(a, b api.Term, conds ...api.Pair) api.Eqn { return api.Eqn{Vars: two, Conds: conds, A: a, B: b} }
	for i, c := range []struct {
		t    api.Type
		want api.Order // none: there is none
	}{
		{n, order(1, 0, 0, 1)}, {api.Type{}, api.Order{}}, {api.Type{Sig: n.Sig}, order(1, 255, 255, 255)},
		{with(), order(1, 255, 255, 255, 255, 255, 255)}, {with(is(s(z), z)), order(1, 0, 0, 255, 255, 255, 255)}, {with(is(z, op(4))), order(1, 1, 255, 255, 255, 0, 255)}, {with(is(op(4), z)), order(1, 0, 255, 255, 255, 1, 255)},
		{with(is(s(x), op(3, x))), order(1, 255, 1, 255, 0, 255, 255)}, {with(is(op(3, s(x)), s(s(op(3, x))))), order(1, 255, 0, 255, 1, 255, 255)},
		{with(is(add(s(x), y), add(x, s(y)))), order(1, 255, 0, 1, 255, 255, 255)}, {with(is(add(x, s(y)), add(s(x), y))), right}, {with(is(add(x, s(y)), s(x))), order(1, 255, 0, 0, 255, 255, 255)}, {with(is(add(x, s(y)), s(s(y)))), order(2, 255, 0, 0, 255, 255, 255)},
		{with(is(add(x, s(y)), add(y, x))), order(3, 255, 0, 0, 255, 255, 255)}, {with(is(add(x, y), add(y, x))), api.Order{}}, {with(is(s(x), s(s(x)))), api.Order{}}, {with(is(s(x), op(3, x)), is(op(3, x), s(x))), api.Order{}},
		// What occurs in conditions alone occurs, too.
		{with(is(s(x), x, api.Pair{A: op(3, x), B: x})), order(1, 255, 1, 255, 0, 255, 255)}, {with(is(s(x), x, api.Pair{A: x, B: op(4)})), order(1, 255, 0, 255, 255, 0, 255)}, {with(is(s(x), x, api.Pair{A: s(x), B: x})), api.Order{}},
		// Four.
		{with(is(add(x, s(y)), s(op(3, add(x, y)))), is(add(x, z), x), is(op(3, x), s(s(x)))), order(1, 0, 0, 2, 1, 255, 255)},
		{with(is(s(x), op(3, op(3, x))), is(op(3, x), add(x, x)), is(add(x, x), z)), order(1, 0, 2, 0, 1, 255, 255)},
	} {
		o, found, err := paths.Find(c.t)
		none := isNoOrder(c.want) && len(c.t.Eqns) > 0
		if found == none || err != api.OK || !sameOrder(withAll(o), withAll(c.want)) {
			t.Errorf("Find %d: %v %v %d", i, o, found, err)
		}
		g, guessed, err := paths.Guess(c.t)
		if err != api.OK || guessed && (none || paths.Check(c.t, g) != api.OK) || !guessed && !isNoOrder(g) {
			t.Errorf("Guess %d: %v %v %d", i, g, guessed, err)
		}
	}
}

// withAll is for orders of the table above, where all that have the place 255 are ByLeft, whatever order says.
func withAll(o api.Order) api.Order {
	out := api.Order{Place: slices.Clone(o.Place), Status: slices.Clone(o.Status)}
	for i, p := range out.Place {
		if p == 255 {
			out.Status[i] = api.ByLeft
		}
	}
	return out
}

// P6.4
func TestFindErrors(t *testing.T) {
	n := nat()
	x := flat(0, 1, 2, 1, 0, 2)
	four := []api.Eqn{{A: s(op(3, op(4))), B: zero()}}
	five := api.Pair{A: s(zero()), B: add(zero(), zero())}
	wrong := api.Type{Sig: n.Sig, Eqns: []api.Eqn{{Vars: []int{0}, A: v(0), B: zero()}}}
	for i, c := range []struct {
		t    api.Type
		want api.Errno
	}{
		{api.Type{Sig: x, Eqns: four}, api.OK}, {api.Type{Sig: x, Eqns: append(four, api.Eqn{A: op(2, op(4), op(4)), B: op(4)})}, api.ErrLimit},
		{api.Type{Sig: x, Eqns: []api.Eqn{{Conds: []api.Pair{five}, A: four[0].A, B: four[0].B}}}, api.ErrLimit}, {api.Type{Sig: x, Eqns: []api.Eqn{{Conds: []api.Pair{{A: five.B, B: five.A}}, A: four[0].A, B: four[0].B}}}, api.ErrLimit},
		{api.Type{Sig: x, Eqns: []api.Eqn{{A: op(2, op(3, s(zero())), op(4)), B: op(4)}}}, api.ErrLimit}, {api.Type{Sig: x, Eqns: []api.Eqn{{A: zero(), B: op(2, op(3, s(op(4))), op(4))}}}, api.ErrLimit},
		{wrong, api.ErrType}, {api.Type{Sig: api.Sig{Sorts: []string{""}}}, api.ErrType}, {api.Type{Sig: n.Sig, Eqns: slices.Repeat(n.Eqns, 201)}, api.ErrType}, {api.Type{Sig: n.Sig, Eqns: slices.Repeat(n.Eqns, 200)}, api.OK},
	} {
		o, is, err := paths.Find(c.t)
		if err != c.want || err == api.OK && !is || err != api.OK && (is || !isNoOrder(o)) {
			t.Errorf("Find %d: %v %v %d", i, o, is, err)
		}
		want := c.want
		if want == api.ErrLimit {
			want = api.OK
		}
		if o, is, err := paths.Guess(c.t); err != want || !is && !isNoOrder(o) {
			t.Errorf("Guess %d: %v %v %d", i, o, is, err)
		}
	}
}

// same returns an equation of add and add, whose parts are alike.
func (m maker) same(x api.Sig) api.Eqn {
	for {
		a := add(m.term(x, 1+m.Intn(3), 2), m.term(x, 1+m.Intn(3), 2))
		b := add(m.changed(x, pick(m, a.L...), 2), m.changed(x, pick(m, a.L...), 2))
		e := api.Eqn{Vars: []int{0, 0}, A: a, B: b}
		if types.Check(api.Type{Sig: x, Eqns: []api.Eqn{e}}) == api.OK {
			return e
		}
	}
}

// P6.4, P6.9
func TestFindAtRandom(t *testing.T) {
	m := newMaker(8)
	met := map[bool]int{}
	statuses := map[int]int{}
	for range 700 {
		x := flat(0, 1, 2, 1, 0)
		y := m.typ(x, 4)
		for range m.Intn(3) {
			y.Eqns = append(y.Eqns, m.same(x))
		}
		occur := occurIn(y)
		if len(occur) > 4 {
			continue
		}
		var want api.Order
		is := false
		for _, o := range ordersFor(len(x.Ops), occur) {
			if (teller{o}).blame(y) < 0 {
				want, is = o, true
				break
			}
		}
		o, found, err := paths.Find(y)
		if found != is || err != api.OK || !sameOrder(o, want) {
			t.Fatalf("Find of %v: %v %v %d, not %v", y, o, found, err, want)
		}
		met[is]++
		for _, k := range o.Status {
			statuses[k]++
		}
		g, guessed, err := paths.Guess(y)
		if err != api.OK || guessed && !is || guessed && paths.Check(y, g) != api.OK || !guessed && !isNoOrder(g) {
			t.Fatalf("Guess of %v: %v %v %d", y, g, guessed, err)
		}
		if is && paths.Check(y, o) != api.OK {
			t.Fatalf("Find of %v: %v is not accepted", y, o)
		}
		for range 40 {
			if o := m.order(x, pick(m, 2, 5, 256)); !is && paths.Check(y, o) != api.ErrOrder {
				t.Fatalf("Find of %v: none, but %v", y, o)
			}
		}
	}
	if met[true] < 100 || met[false] < 100 || statuses[2] < 10 || statuses[3] < 10 {
		t.Errorf("%v %v", met, statuses)
	}
}

// P6.4, P6.9
func TestGuess(t *testing.T) {
	m := newMaker(9)
	x := flat(0, 0, 1, 1, 2, 2, 3, 1, 2)
	met := map[bool]int{}
	for range 1500 {
		y := m.typ(x, 7)
		o, is, err := paths.Guess(y)
		if err != api.OK || is && paths.Check(y, o) != api.OK || !is && !isNoOrder(o) {
			t.Fatalf("Guess of %v: %v %v %d", y, o, is, err)
		}
		met[is]++
	}
	if met[true] < 200 || met[false] < 200 {
		t.Errorf("%v", met)
	}
}

// lists is a type with lists and numbers: 0 z, 1 s, 2 add, 3 mul, 4 nil, 5 cons, 6 app, 7 rev, 8 onto, 9 even, 10 odd.
func lists() api.Type {
	x, y, w := v(0), v(1), v(2)
	all := []int{0, 0, 0}
	out := api.Type{Sig: flat(0, 1, 2, 2, 0, 2, 2, 1, 2, 1, 1)}
	for _, e := range [][2]api.Term{
		{add(x, zero()), x}, {add(x, s(y)), s(add(x, y))}, {op(3, x, zero()), zero()}, {op(3, x, s(y)), add(op(3, x, y), x)},
		{op(6, op(4), y), y}, {op(6, op(5, x, y), w), op(5, x, op(6, y, w))}, {op(6, op(6, x, y), w), op(6, x, op(6, y, w))}, {op(7, x), op(8, x, op(4))},
		{op(8, op(4), y), y}, {op(8, op(5, x, y), w), op(8, y, op(5, x, w))}, {op(9, s(x)), op(10, x)}, {op(10, s(x)), op(9, x)}, {op(9, zero()), zero()},
	} {
		out.Eqns = append(out.Eqns, api.Eqn{Vars: all, A: e[0], B: e[1]})
	}
	return out
}

// P6.4, P6.9: it finds the orders of types whose operations are defined one by the other.
func TestGuessFinds(t *testing.T) {
	y := lists()
	if types.Check(y) != api.OK {
		t.Fatal("lists are no type")
	}
	o, is, err := paths.Guess(y)
	if !is || err != api.OK || paths.Check(y, o) != api.OK {
		t.Errorf("Guess: %v %v %d", o, is, err)
	}
	// From the right, and as multisets.
	two := []int{0, 0}
	y.Eqns = append(y.Eqns[:10:10], api.Eqn{Vars: two, A: op(8, v(0), s(v(1))), B: op(8, s(v(0)), v(1))})
	y.Eqns = without(y.Eqns, 9)
	y.Eqns = append(y.Eqns, api.Eqn{Vars: two, A: op(9, op(5, s(v(0)), v(1))), B: op(9, op(5, v(1), v(0)))})
	o, is, err = paths.Guess(y)
	if !is || err != api.OK || paths.Check(y, o) != api.OK || o.Status[8] != api.ByRight {
		t.Errorf("Guess: %v %v %d", o, is, err)
	}
	// 256 operations, each one defined by the one ahead.
	many := api.Type{}
	for i := range api.MaxOps {
		many.Sig = flat(append([]int{0}, slices.Repeat([]int{1}, i)...)...)
		if i > 1 {
			many.Eqns = append(many.Eqns, api.Eqn{Vars: []int{0}, A: op(i, v(0)), B: op(i-1, op(i-1, v(0)))})
		}
	}
	o, is, err = paths.Guess(many)
	if !is || err != api.OK || paths.Check(many, o) != api.OK {
		t.Errorf("Guess of many: %v %v %d", o, is, err)
	}
}

// P6.4: types with great terms, and many equations.
func TestFindGreat(t *testing.T) {
	n := nat()
	big := api.Type{Sig: n.Sig}
	for i := range 100 {
		big.Eqns = append(big.Eqns, api.Eqn{Vars: []int{0}, A: add(wide(999), add(v(0), high(i, v(0)))), B: add(wide(999), high(i, v(0)))})
	}
	if o, is, err := paths.Find(big); !is || err != api.OK || !sameOrder(o, order(1, 0, 0, 0)) {
		t.Errorf("Find: %v %v %d", o, is, err)
	}
	big.Eqns = append(big.Eqns, api.Eqn{Vars: []int{0, 0}, A: add(high(190, v(0)), high(190, v(1))), B: add(high(190, v(1)), high(190, v(0)))})
	if o, is, err := paths.Find(big); is || err != api.OK || !isNoOrder(o) {
		t.Errorf("Find: %v %v %d", o, is, err)
	}
}
