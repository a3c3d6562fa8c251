package sig_test

import (
	"math/rand"
	"testing"

	"madrigal/api"
	"madrigal/sig"
)

// occurs reports whether a variable is in a tree.
func occurs(n int, t api.Term) bool {
	for _, x := range within(t) {
		if x.Kind == api.KVar && x.N == n {
			return true
		}
	}
	return false
}

// instead returns t with x in the place of the variable n.
func instead(t api.Term, n int, x api.Term) api.Term {
	if t.Kind == api.KVar && t.N == n {
		return x
	}
	out := api.Term{Kind: t.Kind, N: t.N}
	for _, y := range t.L {
		out.L = append(out.L, instead(y, n, x))
	}
	return out
}

// slowUnify puts what it finds into everything at once. It returns how many pairs it looked at, too.
func slowUnify(a, b api.Term) ([]api.Term, bool, int) {
	var l []api.Term
	for n := range 1 + topOf(a, b) {
		l = append(l, v(n))
	}
	rest := []api.Pair{{A: a, B: b}}
	pairs := 0
	for len(rest) > 0 {
		a, b := rest[0].A, rest[0].B
		rest = rest[1:]
		pairs++
		if a.Kind == api.KVar && b.Kind == api.KVar && a.N == b.N {
			continue
		}
		if b.Kind == api.KVar && (a.Kind != api.KVar || a.N < b.N) {
			a, b = b, a
		}
		if a.Kind == api.KVar {
			if occurs(a.N, b) {
				return nil, false, pairs
			}
			for i := range l {
				l[i] = instead(l[i], a.N, b)
			}
			for i, x := range rest {
				rest[i] = api.Pair{A: instead(x.A, a.N, b), B: instead(x.B, a.N, b)}
			}
			continue
		}
		if a.N != b.N || len(a.L) != len(b.L) {
			return nil, false, pairs
		}
		var inner []api.Pair
		for i := range a.L {
			inner = append(inner, api.Pair{A: a.L[i], B: b.L[i]})
		}
		rest = append(inner, rest...)
	}
	return l, true, pairs
}

func topOf(l ...api.Term) int {
	top := -1
	for _, x := range l {
		for _, y := range within(x) {
			if y.Kind == api.KVar {
				top = max(top, y.N)
			}
		}
	}
	return top
}

// P4.4
func TestUnify(t *testing.T) {
	x, y, z := v(0), v(1), v(2)
	for _, c := range []struct {
		a, b api.Term
		l    []api.Term
		is   bool
		err  api.Errno
	}{
		{plus(x, s(x)), plus(s(y), z), []api.Term{s(y), y, s(s(y))}, true, api.OK},
		{x, s(x), nil, false, api.OK},
		{s(x), x, nil, false, api.OK},
		{y, x, []api.Term{x, x}, true, api.OK},
		{x, y, []api.Term{x, x}, true, api.OK},
		{x, x, []api.Term{x}, true, api.OK},
		{z, z, []api.Term{x, y, z}, true, api.OK},
		{zero(), zero(), nil, true, api.OK},
		{zero(), s(zero()), nil, false, api.OK},
		{op(0), op(0, zero()), nil, false, api.OK},
		{op(0, x), op(0, x, x), nil, false, api.OK},
		{op(0, x, x), op(0, x), nil, false, api.OK},
		{op(3, x), op(4, x), nil, false, api.OK},
		{z, zero(), []api.Term{x, y, zero()}, true, api.OK},
		{zero(), z, []api.Term{x, y, zero()}, true, api.OK},
		{plus(x, y), plus(y, x), []api.Term{x, x}, true, api.OK},
		{plus(x, y), plus(y, z), []api.Term{x, x, x}, true, api.OK},
		{plus(z, y), plus(y, x), []api.Term{x, x, x}, true, api.OK},
		{plus(x, y), plus(s(y), s(x)), nil, false, api.OK},
		{op(9, x, y, z), op(9, s(y), s(z), s(x)), nil, false, api.OK},
		{op(9, x, y, z), op(9, s(y), s(z), zero()), []api.Term{s(s(zero())), s(zero()), zero()}, true, api.OK},
		{op(9, x, y, x), op(9, y, zero(), s(zero())), nil, false, api.OK},
		{plus(x, x), plus(y, s(y)), nil, false, api.OK},
		{plus(x, x), plus(s(y), s(z)), []api.Term{s(y), y, y}, true, api.OK},
		{plus(x, x), plus(s(z), s(y)), []api.Term{s(y), y, y}, true, api.OK},
		{v(4), s(v(2)), []api.Term{x, y, z, v(3), s(z)}, true, api.OK},
		{v(4001), zero(), nil, false, api.ErrArg},
		{zero(), s(v(4001)), nil, false, api.ErrArg},
		{zero(), s(v(1<<63 - 1)), nil, false, api.ErrArg},
		{v(4001), api.Term{}, nil, false, api.ErrTerm},
		{api.Term{}, v(4001), nil, false, api.ErrTerm},
	} {
		if l, is, err := sig.Unify(c.a, c.b); !sameLists(l, c.l) || is != c.is || err != c.err {
			t.Errorf("Unify(%v, %v): %v %v %d", c.a, c.b, l, is, err)
		}
	}
	if l, is, err := sig.Unify(v(4000), s(x)); len(l) != 4001 || !equal(l[4000], s(x)) || !equal(l[3999], v(3999)) || !is || err != api.OK {
		t.Errorf("Unify of the variable 4000: %d %v %d", len(l), is, err)
	}
	for _, x := range noTrees() {
		if l, is, err := sig.Unify(x, v(5000)); len(l) != 0 || is || err != api.ErrTerm {
			t.Errorf("Unify: %v %v %d", l, is, err)
		}
		if l, is, err := sig.Unify(v(5000), x); len(l) != 0 || is || err != api.ErrTerm {
			t.Errorf("Unify: %v %v %d", l, is, err)
		}
	}
}

// P4.4
func TestUnifyIsSlowUnify(t *testing.T) {
	all := small(3, 0, 1)
	found := 0
	for _, a := range all {
		for _, b := range all {
			want, can, _ := slowUnify(a, b)
			l, is, err := sig.Unify(a, b)
			if is != can || !sameLists(l, want) || err != api.OK {
				t.Fatalf("Unify(%v, %v): %v %v %d, not %v", a, b, l, is, err, want)
			}
			found += boolInt(is)
		}
	}
	if found < 10000 || found > len(all)*len(all)-10000 {
		t.Errorf("%d of %d", found, len(all)*len(all))
	}
	r := rand.New(rand.NewSource(12))
	found = 0
	for range 20000 {
		a := anyTree(r, 25, 8)
		b := anyTree(r, 25, 8)
		if r.Intn(2) == 0 {
			b = loosened(r, a, 8)
			a = loosened(r, a, 8)
		}
		want, can, pairs := slowUnify(a, b)
		for _, x := range want {
			if n, d := nodesOf(x); n > api.MaxNodes || d > api.MaxDeep {
				pairs = api.MaxUnify + 1
			}
		}
		if pairs > api.MaxUnify {
			continue
		}
		l, is, err := sig.Unify(a, b)
		if is != can || !sameLists(l, want) || err != api.OK {
			t.Fatalf("Unify(%v, %v): %v %v %d, not %v", a, b, l, is, err, want)
		}
		found += boolInt(is)
	}
	if found < 3000 || found > 17000 {
		t.Errorf("%d of 20000", found)
	}
}

// loosened returns a tree with some of its places made variables.
func loosened(r *rand.Rand, t api.Term, vars int) api.Term {
	if r.Intn(6) == 0 {
		return v(r.Intn(vars))
	}
	out := api.Term{Kind: t.Kind, N: t.N}
	for _, x := range t.L {
		out.L = append(out.L, loosened(r, x, vars))
	}
	return out
}

// P4.5
func TestMostGeneral(t *testing.T) {
	r := rand.New(rand.NewSource(13))
	all := small(3, 0, 1)
	few := small(2, 0, 1)
	by := 0
	for range 3000 {
		a, b := all[r.Intn(len(all))], all[r.Intn(len(all))]
		l, is, err := sig.Unify(a, b)
		if err != api.OK || is && !equal(put(a, l), put(b, l)) {
			t.Fatalf("Unify(%v, %v): %v %d", a, b, l, err)
		}
		for _, x := range few {
			for _, y := range few {
				other := []api.Term{x, y}
				if !equal(put(a, other), put(b, other)) {
					continue
				}
				if !is {
					t.Fatalf("%v and %v are equal by %v", a, b, other)
				}
				// The other one is l, followed by itself.
				for n := range l {
					if !equal(put(l[n], other), other[n]) {
						t.Fatalf("Unify(%v, %v): %v is not followed by %v", a, b, l, other)
					}
				}
				by++
			}
		}
	}
	if by < 1000 {
		t.Errorf("%d others", by)
	}
}

// P4.13
func TestIdempotent(t *testing.T) {
	r := rand.New(rand.NewSource(14))
	found := 0
	for range 5000 {
		x := anyTree(r, 20, 5)
		a, b := loosened(r, x, 5), loosened(r, x, 5)
		l, is, err := sig.Unify(a, b)
		if err != api.OK || !is {
			continue
		}
		found++
		for n, x := range l {
			if y, err := sig.Subst(x, l); err != api.OK || !sig.Same(x, y) {
				t.Fatalf("Unify(%v, %v): %v, element %d", a, b, l, n)
			}
		}
		y, err := sig.Subst(a, l)
		z, err2 := sig.Subst(b, l)
		if err != err2 || !sig.Same(y, z) {
			t.Fatalf("Unify(%v, %v): %v", a, b, l)
		}
		l, is, err = sig.Unify(a, a)
		if len(l) != topOf(a)+1 || !is || err != api.OK {
			t.Fatalf("Unify(%v) and itself: %v %v %d", a, l, is, err)
		}
		for n, x := range l {
			if !equal(x, v(n)) {
				t.Fatalf("Unify(%v) and itself: %v", a, l)
			}
		}
	}
	if found < 1000 {
		t.Errorf("%d found", found)
	}
}

// row returns a tree with these parts, in this order.
func row(l []api.Term) api.Term {
	if len(l) <= api.MaxArgs {
		return op(50+len(l), l...)
	}
	out := op(60)
	part := (len(l) + api.MaxArgs - 1) / api.MaxArgs
	for len(l) > 0 {
		n := min(part, len(l))
		out.L = append(out.L, row(l[:n]))
		l = l[n:]
	}
	return out
}

// costly returns two trees that unify after that many pairs were looked at.
func costly(t *testing.T, pairs int) (api.Term, api.Term) {
	big := wide(100)
	a, b := []api.Term{v(0), v(1)}, []api.Term{big, big}
	for range 190 {
		a, b = append(a, v(0)), append(b, v(1))
	}
	for range 550 {
		a, b = append(a, zero()), append(b, zero())
	}
	x, y := row(a), row(b)
	_, is, n := slowUnify(x, y)
	if !is || n > pairs || n < pairs-150 {
		t.Fatalf("%d pairs: %v", n, is)
	}
	for range pairs - n {
		x, y = s(x), s(y)
	}
	return x, y
}

// P4.4
func TestUnifyPairs(t *testing.T) {
	x, y := costly(t, 20000)
	if l, is, err := sig.Unify(x, y); len(l) != 2 || !equal(l[0], wide(100)) || !is || err != api.OK {
		t.Errorf("20000 pairs: %v %d", is, err)
	}
	if l, is, err := sig.Unify(s(x), s(y)); len(l) != 0 || is || err != api.ErrLimit {
		t.Errorf("20001 pairs: %v %d", is, err)
	}
	// What cannot be told within 20000 pairs is not looked at; what can be told ahead is told.
	if l, is, err := sig.Unify(plus(x, zero()), plus(y, s(zero()))); len(l) != 0 || is || err != api.ErrLimit {
		t.Errorf("behind 20000 pairs: %v %d", is, err)
	}
	if l, is, err := sig.Unify(plus(zero(), x), plus(s(zero()), y)); len(l) != 0 || is || err != api.OK {
		t.Errorf("ahead of 20000 pairs: %v %d", is, err)
	}
	x, y = costly(t, 19998)
	if l, is, err := sig.Unify(plus(x, zero()), plus(y, s(zero()))); len(l) != 0 || is || err != api.OK {
		t.Errorf("the last of 20000 pairs: %v %d", is, err)
	}
	if l, is, err := sig.Unify(plus(x, zero()), plus(y, v(2))); len(l) != 3 || !is || err != api.OK {
		t.Errorf("the last of 20000 pairs: %v %d", is, err)
	}
	if l, is, err := sig.Unify(plus(s(x), zero()), plus(s(y), s(zero()))); len(l) != 0 || is || err != api.ErrLimit {
		t.Errorf("the first one of too many pairs: %v %d", is, err)
	}
	// The same variable twice, and what is the same, are pairs, too.
	if l, is, err := sig.Unify(op(9, x, v(0)), op(9, y, v(0))); len(l) != 0 || is || err != api.ErrLimit {
		t.Errorf("a great tree twice: %v %d", is, err)
	}
	if l, is, err := sig.Unify(op(9, x, v(2)), op(9, y, v(2))); len(l) != 3 || !is || err != api.OK {
		t.Errorf("a variable twice: %v %d", is, err)
	}
}

// P4.4
func TestUnifyGreat(t *testing.T) {
	for i, c := range []struct {
		a, b api.Term
		l    []api.Term // nil: ErrLimit
	}{
		{plus(v(0), v(1)), plus(wide(999), op(9, v(0), v(0), zero())), []api.Term{wide(999), op(9, wide(999), wide(999), zero())}},
		{plus(v(0), v(1)), plus(wide(999), op(9, v(0), v(0), zero(), zero())), nil},
		{plus(v(1), v(0)), plus(op(9, v(0), v(0), zero(), zero()), wide(999)), nil},
		{plus(v(0), v(1)), plus(high(100, zero()), high(101, v(0))), []api.Term{high(100, zero()), high(200, zero())}},
		{plus(v(0), v(1)), plus(high(100, zero()), high(102, v(0))), nil},
		{plus(v(1), v(0)), plus(high(102, v(0)), high(100, zero())), nil},
		// The trees with everything put in can be greater than a tree.
		{op(9, v(0), v(1), v(0)), op(9, wide(900), plus(v(0), v(0)), v(0)), []api.Term{wide(900), plus(wide(900), wide(900))}},
		{plus(high(199, v(0)), v(0)), plus(high(199, v(0)), high(199, zero())), []api.Term{high(199, zero())}},
	} {
		l, is, err := sig.Unify(c.a, c.b)
		if c.l == nil && (len(l) != 0 || is || err != api.ErrLimit) || c.l != nil && (!sameLists(l, c.l) || !is || err != api.OK) {
			t.Errorf("Unify %d: %d elements %v %d", i, len(l), is, err)
		}
	}
	var names, twice, more []api.Term
	for i := range 240 {
		names, twice, more = append(names, v(i+1)), append(twice, plus(v(i), v(i))), append(more, v(i+300))
	}
	// Each variable becomes two of the one ahead: 2 to the power of 240 nodes.
	if l, is, err := sig.Unify(row(names), row(twice)); len(l) != 0 || is || err != api.ErrLimit {
		t.Errorf("Unify of doubled ones: %v %d", is, err)
	}
	// A variable within that is found, and no other one is missed.
	if l, is, err := sig.Unify(plus(row(names), v(0)), plus(row(twice), s(v(240)))); len(l) != 0 || is || err != api.OK {
		t.Errorf("Unify of doubled ones in a circle: %v %d", is, err)
	}
	// Two of them with each other: 2 to the power of 200 pairs.
	other := renamed(twice, shiftedNames(300, 600))
	if l, is, err := sig.Unify(plus(row(append(names, more[1:]...)), v(240)), plus(row(append(twice, other[:239]...)), v(539))); len(l) != 0 || is || err != api.ErrLimit {
		t.Errorf("Unify of two doubled ones: %v %d", is, err)
	}
}

func shiftedNames(by, n int) []int {
	var out []int
	for i := range n {
		out = append(out, i+by)
	}
	return out
}

// P4.4
func TestUnifyManyVariables(t *testing.T) {
	// 900 variables in a row, each one the next one's: all become the first one; then each of 700 others becomes all of them.
	var a, b []api.Term
	for i := range 450 {
		a, b = append(a, v(i+1)), append(b, v(i))
	}
	chain := row(a)
	a, b = append(a, v(1000)), append(b, chain)
	for i := range 450 {
		a, b = append(a, v(1001+i)), append(b, v(1000))
	}
	l, is, err := sig.Unify(row(a), row(b))
	if len(l) != 1451 || !is || err != api.OK || !equal(l[450], v(0)) || !equal(l[1450], l[1000]) || topOf(l[1450]) != 0 {
		t.Errorf("Unify of many variables: %d %v %d", len(l), is, err)
	}
	a, b = append(a, v(1450)), append(b, s(v(3)))
	if l, is, err := sig.Unify(row(a), row(b)); len(l) != 0 || is || err != api.OK {
		t.Errorf("Unify of many variables: %d %v %d", len(l), is, err)
	}
}
