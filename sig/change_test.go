package sig_test

import (
	"math/rand"
	"slices"
	"testing"

	"madrigal/api"
	"madrigal/sig"
)

// P4.3
func TestSubst(t *testing.T) {
	x, y := v(0), v(1)
	for _, c := range []struct {
		t    api.Term
		l    []api.Term
		want api.Term
		err  api.Errno
	}{
		{plus(x, y), []api.Term{s(y), zero()}, plus(s(y), zero()), api.OK},
		{plus(x, y), []api.Term{s(y)}, api.Term{}, api.ErrArg},
		{plus(x, y), nil, api.Term{}, api.ErrArg},
		{x, []api.Term{v(9)}, v(9), api.OK},
		{y, []api.Term{v(9), x, zero()}, x, api.OK},
		{zero(), nil, zero(), api.OK},
		{plus(x, x), []api.Term{plus(x, y)}, plus(plus(x, y), plus(x, y)), api.OK},
		{v(1<<63 - 1), []api.Term{zero()}, api.Term{}, api.ErrArg},
		{zero(), []api.Term{{}}, api.Term{}, api.ErrTerm},
		{plus(x, y), []api.Term{{}}, api.Term{}, api.ErrTerm},
		{x, []api.Term{zero(), v(-1)}, api.Term{}, api.ErrTerm},
		{api.Term{}, []api.Term{zero()}, api.Term{}, api.ErrTerm},
		{v(7), []api.Term{zero(), op(-1)}, api.Term{}, api.ErrTerm},
	} {
		if z, err := sig.Subst(c.t, c.l); !equal(z, c.want) || err != c.err {
			t.Errorf("Subst of %v with %v: %v %d", c.t, c.l, z, err)
		}
	}
	for _, x := range noTrees() {
		if y, err := sig.Subst(x, []api.Term{zero()}); !isZero(y) || err != api.ErrTerm {
			t.Errorf("Subst: %v %d", y, err)
		}
		if y, err := sig.Subst(v(0), []api.Term{zero(), x}); !isZero(y) || err != api.ErrTerm {
			t.Errorf("Subst: %v %d", y, err)
		}
	}
}

// P4.3
func TestSubstLimits(t *testing.T) {
	eight := op(0, v(0), v(0), v(0), v(0), v(0), v(0), v(0), v(0))
	full := op(0, eight, eight, eight, eight, eight, eight, eight, eight)
	for i, c := range []struct {
		t   api.Term
		l   []api.Term
		err api.Errno
	}{
		{high(100, v(0)), []api.Term{high(101, zero())}, api.OK},
		{high(100, v(0)), []api.Term{high(102, zero())}, api.ErrLimit},
		{plus(high(99, v(0)), v(0)), []api.Term{high(101, zero())}, api.OK},
		{plus(v(0), high(99, v(0))), []api.Term{high(102, zero())}, api.ErrLimit},
		{op(7, v(0), v(0), zero()), []api.Term{wide(999)}, api.OK},
		{op(7, v(0), v(0), zero(), zero()), []api.Term{wide(999)}, api.ErrLimit},
		{op(7, v(0), v(1), zero()), []api.Term{wide(1), wide(1997)}, api.OK},
		{op(7, v(1), v(0), zero()), []api.Term{wide(1), wide(1998)}, api.ErrLimit},
		{v(1), []api.Term{wide(2000), wide(2000)}, api.OK},
		{s(v(1)), []api.Term{wide(2000), wide(2000)}, api.ErrLimit},
		{full, []api.Term{wide(31)}, api.OK},
		{full, []api.Term{wide(32)}, api.ErrLimit},
		{plus(full, wide(1000)), []api.Term{wide(2000)}, api.ErrLimit},
		{full, []api.Term{high(198, zero())}, api.ErrLimit},
	} {
		y, err := sig.Subst(c.t, c.l)
		if err != c.err || err != api.OK && !isZero(y) || err == api.OK && !equal(y, put(c.t, c.l)) {
			t.Errorf("Subst %d: %d", i, err)
		}
	}
}

// P4.8
func TestSubstAfterSubst(t *testing.T) {
	r := rand.New(rand.NewSource(8))
	for range 3000 {
		x := anyTree(r, 10, 3)
		var a, b, both []api.Term
		for range 3 {
			a = append(a, anyTree(r, 6, 2))
		}
		for range 2 {
			b = append(b, anyTree(r, 5, 4))
		}
		for _, y := range a {
			z, err := sig.Subst(y, b)
			if err != api.OK || !equal(z, put(y, b)) {
				t.Fatalf("Subst of %v with %v: %v %d", y, b, z, err)
			}
			both = append(both, z)
		}
		y, err := sig.Subst(x, a)
		z, err2 := sig.Subst(y, b)
		w, err3 := sig.Subst(x, both)
		if err != api.OK || err2 != api.OK || err3 != api.OK || !sig.Same(z, w) || !equal(y, put(x, a)) {
			t.Fatalf("%v with %v and %v: %v %v", x, a, b, z, w)
		}
	}
}

// P4.3
func TestShift(t *testing.T) {
	const far = 1<<63 - 1
	x, y := v(0), v(1)
	for _, c := range []struct {
		t        api.Term
		from, by int
		want     api.Term
		err      api.Errno
	}{
		{plus(x, y), 1, 2, plus(x, v(3)), api.OK},
		{plus(x, y), 0, 2, plus(v(2), v(3)), api.OK},
		{plus(x, y), 2, 2, plus(x, y), api.OK},
		{plus(x, y), 2, far, plus(x, y), api.OK},
		{plus(x, y), far, -far, plus(x, y), api.OK},
		{plus(x, y), 1, 0, plus(x, y), api.OK},
		{plus(x, y), 1, -1, api.Term{}, api.ErrArg},
		{plus(x, v(5)), 1, -4, plus(x, v(1)), api.OK},
		{plus(x, v(5)), 1, -5, api.Term{}, api.ErrArg},
		{plus(x, v(5)), 0, -5, api.Term{}, api.ErrArg},
		{plus(v(7), v(5)), 5, 0, plus(v(7), v(5)), api.OK},
		{x, -1, 0, api.Term{}, api.ErrArg},
		{x, -1, 5, api.Term{}, api.ErrArg},
		{zero(), -1, 0, api.Term{}, api.ErrArg},
		{zero(), -1 << 63, 0, api.Term{}, api.ErrArg},
		{zero(), 0, far, zero(), api.OK},
		{zero(), far, -1 << 63, zero(), api.OK},
		{x, 0, 1000000, v(1000000), api.OK},
		{x, 0, 1000001, api.Term{}, api.ErrArg},
		{y, 0, 999999, v(1000000), api.OK},
		{y, 0, 1000000, api.Term{}, api.ErrArg},
		{plus(y, s(v(1000000))), 2, 0, plus(y, s(v(1000000))), api.OK},
		{plus(y, s(v(1000001))), 2, 0, api.Term{}, api.ErrArg},
		{v(1000001), 2, -1, v(1000000), api.OK},
		{v(far), 0, -far, x, api.OK},
		{v(far), 0, -1, api.Term{}, api.ErrArg},
		{v(far), 0, far, api.Term{}, api.ErrArg},
		{v(far), 0, -1 << 63, api.Term{}, api.ErrArg},
		{v(far), far, 0, api.Term{}, api.ErrArg},
		{v(far), far, -1 << 63, api.Term{}, api.ErrArg},
		{v(1000001), 2000000, 5, v(1000001), api.OK},
		{x, 0, -1 << 63, api.Term{}, api.ErrArg},
		{s(y), 0, far, api.Term{}, api.ErrArg},
		{s(y), 0, -far, api.Term{}, api.ErrArg},
		{api.Term{}, -1, 0, api.Term{}, api.ErrTerm},
	} {
		if z, err := sig.Shift(c.t, c.from, c.by); !equal(z, c.want) || err != c.err {
			t.Errorf("Shift of %v from %d by %d: %v %d", c.t, c.from, c.by, z, err)
		}
	}
	for _, x := range noTrees() {
		if z, err := sig.Shift(x, -1, 0); !isZero(z) || err != api.ErrTerm {
			t.Errorf("Shift: %v %d", z, err)
		}
	}
}

// P4.12
func TestShiftLaws(t *testing.T) {
	r := rand.New(rand.NewSource(9))
	done := 0
	for range 5000 {
		x, from := anyTree(r, 10, 5), r.Intn(6)
		a, b := r.Intn(7)-3, r.Intn(7)-3
		y, err := sig.Shift(x, from, a)
		if err != api.OK {
			continue
		}
		if back, err := sig.Shift(y, from, -a); err != api.OK || !sig.Same(back, x) {
			t.Fatalf("Shift of %v from %d by %d, and back: %v %d", x, from, a, back, err)
		}
		z, err := sig.Shift(y, from, b)
		w, err2 := sig.Shift(x, from, a+b)
		if err != err2 || !sig.Same(z, w) {
			t.Fatalf("Shift of %v from %d by %d and %d: %v %v", x, from, a, b, z, w)
		}
		done++
	}
	if done < 2000 {
		t.Errorf("%d done", done)
	}
}

// P4.3
func TestNormal(t *testing.T) {
	x, y := v(0), v(1)
	for _, c := range []struct {
		l, want []api.Term
		were    []int
		err     api.Errno
	}{
		{nil, nil, nil, api.OK},
		{[]api.Term{zero()}, []api.Term{zero()}, nil, api.OK},
		{[]api.Term{plus(y, x), y}, []api.Term{plus(x, y), x}, []int{1, 0}, api.OK},
		{[]api.Term{y, plus(x, y)}, []api.Term{x, plus(y, x)}, []int{1, 0}, api.OK},
		{[]api.Term{v(1<<63 - 1), s(v(5)), v(1<<63 - 1)}, []api.Term{x, s(y), x}, []int{1<<63 - 1, 5}, api.OK},
		{[]api.Term{zero(), plus(s(v(4)), plus(v(3), v(4))), v(0)}, []api.Term{zero(), plus(s(x), plus(y, x)), v(2)}, []int{4, 3, 0}, api.OK},
		{[]api.Term{y, {}}, nil, nil, api.ErrTerm},
		{[]api.Term{{}, y}, nil, nil, api.ErrTerm},
	} {
		if l, were, err := sig.Normal(c.l); !sameLists(l, c.want) || !slices.Equal(were, c.were) || err != c.err {
			t.Errorf("Normal of %v: %v %v %d", c.l, l, were, err)
		}
	}
	for _, x := range noTrees() {
		if l, were, err := sig.Normal([]api.Term{y, x}); len(l) != 0 || len(were) != 0 || err != api.ErrTerm {
			t.Errorf("Normal: %v %v %d", l, were, err)
		}
	}
}

// renamed returns the trees with other names of variables.
func renamed(l []api.Term, names []int) []api.Term {
	var by []api.Term
	for _, n := range names {
		by = append(by, v(n))
	}
	var out []api.Term
	for _, x := range l {
		out = append(out, put(x, by))
	}
	return out
}

// P4.11
func TestNormalLaws(t *testing.T) {
	r := rand.New(rand.NewSource(10))
	for range 3000 {
		l := []api.Term{anyTree(r, 8, 4), anyTree(r, 8, 4)}
		a, were, err := sig.Normal(l)
		other := renamed(l, []int{r.Intn(10), 10 + r.Intn(1000), 2000 + r.Intn(1<<60), 1999})
		b, were2, err2 := sig.Normal(other)
		if err != api.OK || err2 != api.OK || !sameLists(a, b) {
			t.Fatalf("Normal of %v and %v: %v %v", l, other, a, b)
		}
		if !sameLists(renamed(a, were), l) || !sameLists(renamed(b, were2), other) || !slices.Equal(were, sig.Vars(l)) {
			t.Fatalf("Normal of %v: %v %v", l, a, were)
		}
		again, same, err := sig.Normal(a)
		if err != api.OK || !sameLists(again, a) {
			t.Fatalf("Normal of %v: %v", a, again)
		}
		for i, n := range same {
			if i != n {
				t.Fatalf("Normal of %v: %v", a, same)
			}
		}
	}
}

// makers are functions that return terms.
func makers() map[string]func(x api.Term, l []api.Term) []api.Term {
	return map[string]func(x api.Term, l []api.Term) []api.Term{
		"At": func(x api.Term, l []api.Term) []api.Term {
			a, _ := sig.At(x, nil)
			b, _ := sig.At(x, []int{1})
			return []api.Term{a, b}
		},
		"Put": func(x api.Term, l []api.Term) []api.Term {
			a, _ := sig.Put(x, []int{1, 0}, l[0])
			b, _ := sig.Put(x, nil, l[0])
			return []api.Term{a, b}
		},
		"Subst": func(x api.Term, l []api.Term) []api.Term {
			a, _ := sig.Subst(x, l)
			return []api.Term{a.L[0].L[0], a.L[1].L[1], a.L[1].L[0].L[1], a.L[1].L[0].L[0]}
		},
		"Subst of a variable": func(x api.Term, l []api.Term) []api.Term {
			a, _ := sig.Subst(v(1), l)
			b, _ := sig.Subst(s(zero()), l)
			return []api.Term{a, b}
		},
		"Shift": func(x api.Term, l []api.Term) []api.Term {
			a, _ := sig.Shift(x, 5, 1)
			b, _ := sig.Shift(x, 0, 1)
			return []api.Term{a, b}
		},
		"Normal": func(x api.Term, l []api.Term) []api.Term {
			a, _, _ := sig.Normal([]api.Term{x, x, l[0], l[0]})
			return a
		},
		"Match": func(x api.Term, l []api.Term) []api.Term {
			a, _, _ := sig.Match(plus(v(0), plus(v(1), v(2))), x)
			b, _, _ := sig.Match(v(0), x)
			return append(a, b...)
		},
		"Unify": func(x api.Term, l []api.Term) []api.Term {
			a, _, _ := sig.Unify(plus(v(5), plus(v(6), v(7))), plus(x, plus(v(5), v(6))))
			return a
		},
	}
}

// P4.3, P4.4
func TestResultsAreNew(t *testing.T) {
	arguments := func() (api.Term, []api.Term) {
		x := plus(s(v(0)), plus(plus(v(1), s(zero())), v(0)))
		return x, []api.Term{plus(zero(), v(3)), s(s(v(2))), v(1)}
	}
	for name, f := range makers() {
		x, l := arguments()
		got := f(x, l)
		want := twins(got)
		y, k := arguments()
		if !equal(x, y) || !sameLists(l, k) {
			t.Fatalf("%s changes arguments", name)
		}
		scribble(x)
		scribbleAll(l)
		if !sameLists(got, want) {
			t.Errorf("%s keeps arguments", name)
		}
		for i := range got {
			scribble(got[i])
			if !sameLists(got[i+1:], want[i+1:]) {
				t.Errorf("%s: element %d shares memory", name, i)
			}
		}
	}
	l, were, _ := sig.Normal([]api.Term{v(4), v(3)})
	l[0].N, were[0] = 9, 9
	if l2, were2, _ := sig.Normal([]api.Term{v(4), v(3)}); l2[0].N != 0 || were2[0] != 4 || were[1] != 3 {
		t.Error("Normal keeps results")
	}
}
