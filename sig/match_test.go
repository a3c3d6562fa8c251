package sig_test

import (
	"math/rand"
	"testing"

	"madrigal/api"
	"madrigal/sig"
)

// P4.4
func TestMatch(t *testing.T) {
	x, y, z := v(0), v(1), v(2)
	none := api.Term{}
	for _, c := range []struct {
		p, t api.Term
		l    []api.Term
		is   bool
		err  api.Errno
	}{
		{plus(x, x), plus(s(y), s(y)), []api.Term{s(y)}, true, api.OK},
		{plus(x, x), plus(zero(), s(zero())), nil, false, api.OK},
		{z, zero(), []api.Term{none, none, zero()}, true, api.OK},
		{zero(), zero(), nil, true, api.OK},
		{zero(), s(zero()), nil, false, api.OK},
		{zero(), x, nil, false, api.OK},
		{s(zero()), s(x), nil, false, api.OK},
		{x, x, []api.Term{x}, true, api.OK},
		{x, v(1<<63 - 1), []api.Term{v(1<<63 - 1)}, true, api.OK},
		{x, s(x), []api.Term{s(x)}, true, api.OK},
		{plus(x, y), plus(y, x), []api.Term{y, x}, true, api.OK},
		{plus(z, s(x)), plus(plus(z, z), s(y)), []api.Term{y, none, plus(z, z)}, true, api.OK},
		{plus(x, s(x)), plus(y, s(z)), nil, false, api.OK},
		{plus(x, plus(x, x)), plus(y, plus(y, z)), nil, false, api.OK},
		{op(0, x), op(0, x, y), nil, false, api.OK},
		{op(0, x, y), op(0, x), nil, false, api.OK},
		{op(0), op(0, x), nil, false, api.OK},
		{op(0, x), op(0), nil, false, api.OK},
		{op(3, x), op(4, x), nil, false, api.OK},
		{v(4001), zero(), nil, false, api.ErrArg},
		{plus(x, v(1<<63-1)), zero(), nil, false, api.ErrArg},
		{x, s(v(4001)), []api.Term{s(v(4001))}, true, api.OK},
		{v(4001), none, nil, false, api.ErrTerm},
		{none, v(4001), nil, false, api.ErrTerm},
	} {
		if l, is, err := sig.Match(c.p, c.t); !sameLists(l, c.l) || is != c.is || err != c.err {
			t.Errorf("Match(%v, %v): %v %v %d", c.p, c.t, l, is, err)
		}
	}
	if l, is, err := sig.Match(plus(v(4000), v(17)), plus(x, s(y))); len(l) != 4001 || !equal(l[4000], x) || !equal(l[17], s(y)) || !isZero(l[3999]) || !is || err != api.OK {
		t.Errorf("Match of the variable 4000: %d %v %d", len(l), is, err)
	}
	for _, x := range noTrees() {
		if l, is, err := sig.Match(x, zero()); len(l) != 0 || is || err != api.ErrTerm {
			t.Errorf("Match: %v %v %d", l, is, err)
		}
		if l, is, err := sig.Match(v(5000), x); len(l) != 0 || is || err != api.ErrTerm {
			t.Errorf("Match: %v %v %d", l, is, err)
		}
	}
	if l, is, err := sig.Match(doubled(9), doubled(9)); len(l) != 0 || !is || err != api.OK {
		t.Errorf("Match of a great tree: %v %v %d", l, is, err)
	}
}

// within returns all trees that stand in one.
func within(t api.Term) []api.Term {
	out := []api.Term{t}
	for _, x := range t.L {
		out = append(out, within(x)...)
	}
	return out
}

// instance tries what is within t for each of two variables.
func instance(p, t api.Term) bool {
	l := within(t)
	for _, x := range l {
		for _, y := range l {
			if equal(put(p, []api.Term{x, y}), t) {
				return true
			}
		}
	}
	return false
}

// P4.10
func TestInstances(t *testing.T) {
	r := rand.New(rand.NewSource(11))
	all := small(3, 0, 1)
	found := 0
	for range 12000 {
		p, x := all[r.Intn(len(all))], all[r.Intn(len(all))]
		if r.Intn(2) == 0 {
			p = all[r.Intn(20)]
		}
		if r.Intn(4) == 0 {
			x = put(p, []api.Term{all[r.Intn(30)], all[r.Intn(30)]})
		}
		l, is, err := sig.Match(p, x)
		if err != api.OK || is != instance(p, x) {
			t.Fatalf("Match(%v, %v): %v %d", p, x, is, err)
		}
		if !is {
			continue
		}
		found++
		vars := sig.Vars([]api.Term{p})
		for n := range l {
			if occurs := n < 2 && (len(vars) > 0 && vars[0] == n || len(vars) > 1 && vars[1] == n); occurs == isZero(l[n]) {
				t.Fatalf("Match(%v, %v): %v", p, x, l)
			}
		}
		if !equal(put(p, append(l, zero(), zero())), x) {
			t.Fatalf("Match(%v, %v): %v", p, x, l)
		}
	}
	if found < 3000 {
		t.Errorf("%d found", found)
	}
}

// P4.10
func TestMatchEachOther(t *testing.T) {
	all := small(3, 0, 1)
	each := 0
	for i, a := range all {
		for j, b := range all {
			if (i+j)%4 > 1 {
				continue
			}
			_, is, _ := sig.Match(a, b)
			_, back, _ := sig.Match(b, a)
			x, _, _ := sig.Normal([]api.Term{a})
			y, _, _ := sig.Normal([]api.Term{b})
			if names := sameLists(x, y); names != (is && back) {
				t.Fatalf("%v and %v: %v %v, but %v", a, b, is, back, names)
			}
			each += boolInt(is && back)
		}
	}
	if each < 150 {
		t.Errorf("%d match each other", each)
	}
}
