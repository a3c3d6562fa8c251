package paths_test

import (
	"reflect"
	"slices"
	"testing"

	"madrigal/api"
	"madrigal/paths"
	"madrigal/sig"
)

// P6.4: the chapter's example, and others.
func TestSort(t *testing.T) {
	x, y, z := v(0), v(1), zero()
	o, m := examples()
	list := func(l ...api.Term) []api.Term { return l }
	for i, c := range []struct {
		o       api.Order
		l, want []api.Term
	}{
		{o, list(s(z), x, z, add(z, z)), list(x, z, s(z), add(z, z))}, {o, nil, nil}, {o, list(x), list(x)}, {o, list(y, x, y), list(y, x, y)},
		{o, list(s(s(z)), s(z), z), list(z, s(z), s(s(z)))}, {o, list(s(x), s(y), x), list(s(y), x, s(x))}, {o, list(s(x), s(y), y, x), list(y, s(y), x, s(x))},
		{o, list(s(z), z, s(z), z), list(z, z, s(z), s(z))}, {m, list(add(x, y), add(y, x), y), list(y, add(x, y), add(y, x))}, {m, list(add(y, x), x, add(x, y)), list(x, add(y, x), add(x, y))},
		{o, list(s(s(x)), s(y), s(x), y, x), list(y, s(y), x, s(x), s(s(x)))}, {order(1, 0, 1, 0), list(s(z), add(z, z)), list(add(z, z), s(z))},
	} {
		l, err := paths.Sort(nat().Sig, c.o, c.l)
		if !slices.EqualFunc(l, c.want, sig.Same) || err != api.OK {
			t.Errorf("Sort %d: %v %d", i, l, err)
		}
	}
}

// sorted takes, again and again, the first term than which none that is left is less.
func (o teller) sorted(l []api.Term) []api.Term {
	var out []api.Term
	left := slices.Clone(l)
	for len(left) > 0 {
		at := slices.IndexFunc(left, func(a api.Term) bool {
			return !slices.ContainsFunc(left, func(b api.Term) bool { return o.greater(a, b) })
		})
		out = append(out, left[at])
		left = without(left, at)
	}
	return out
}

// P6.4, P6.12
func TestSortAtRandom(t *testing.T) {
	m := newMaker(10)
	x := flat(0, 0, 1, 1, 2, 2, 3)
	moved, pairs := 0, 0
	for range 1500 {
		o := m.order(x, pick(m, 1, 3, 256))
		var l []api.Term
		for range m.Intn(14) {
			y := m.term(x, 1+m.Intn(7), m.Intn(3))
			if len(l) > 0 && m.Intn(2) == 0 {
				y = m.changed(x, pick(m, l...), 2)
			}
			l = append(l, y)
		}
		got, err := paths.Sort(x, o, l)
		if err != api.OK || !slices.EqualFunc(got, teller{o}.sorted(l), sig.Same) {
			t.Fatalf("Sort by %v of %v: %v %d", o, l, got, err)
		}
		again, err := paths.Sort(x, o, got)
		if err != api.OK || !slices.EqualFunc(got, again, sig.Same) {
			t.Fatalf("Sort by %v of %v: %v, then %v %d", o, l, got, again, err)
		}
		a, b := slices.Clone(l), slices.Clone(got)
		slices.SortFunc(a, sig.Compare)
		slices.SortFunc(b, sig.Compare)
		if !slices.EqualFunc(a, b, sig.Same) {
			t.Fatalf("Sort by %v of %v: other terms, %v", o, l, got)
		}
		for i := range got {
			for _, y := range got[i+1:] {
				if gr, _ := paths.Greater(x, o, got[i], y); gr {
					t.Fatalf("Sort by %v of %v: %v ahead of %v", o, l, got[i], y)
				}
				pairs++
			}
		}
		if !slices.EqualFunc(l, got, sig.Same) {
			moved++
		}
	}
	if moved < 500 || pairs < 20000 {
		t.Errorf("%d moved, %d pairs", moved, pairs)
	}
}

// P6.4
func TestSortLimits(t *testing.T) {
	o, _ := examples()
	x := nat().Sig
	var up, down, apart []api.Term
	for i := range 1000 {
		y := add(high(50+i/10, zero()), high(i%10, zero()))
		up, down, apart = append(up, y), append(down, y), append(apart, v(i%7*1000))
	}
	slices.Reverse(down)
	for i, l := range [][]api.Term{up, down} {
		if got, err := paths.Sort(x, o, l); err != api.OK || !slices.EqualFunc(got, up, sig.Same) {
			t.Errorf("Sort of 1000, %d: %d", i, err)
		}
	}
	if got, err := paths.Sort(x, o, apart); err != api.OK || !slices.EqualFunc(got, apart, sig.Same) {
		t.Errorf("Sort of 1000 variables: %d", err)
	}
	for _, l := range [][]api.Term{append(up, zero()), append(apart, up...)} {
		if got, err := paths.Sort(x, o, l); err != api.ErrLimit || len(got) > 0 {
			t.Errorf("Sort of %d: %d", len(l), err)
		}
		if got, err := paths.Sort(x, o, append(l, s(api.Term{}))); err != api.ErrTerm || len(got) > 0 {
			t.Errorf("Sort of %d, and no term: %d", len(l), err)
		}
		if got, err := paths.Sort(x, order(1, 0), l); err != api.ErrOrder || len(got) > 0 {
			t.Errorf("Sort of %d, without an order: %d", len(l), err)
		}
	}
}

// P6.4, P6.12: many terms that are alike, so that much is to be kept.
func TestSortMany(t *testing.T) {
	m := newMaker(11)
	x := flat(0, 0, 1, 1, 2, 2, 3)
	for _, vars := range []int{0, 2} {
		o := m.order(x, 4)
		var l []api.Term
		for range 1000 {
			l = append(l, m.term(x, 1+m.Intn(40), vars))
		}
		got, err := paths.Sort(x, o, l)
		again, err2 := paths.Sort(x, o, got)
		if err != api.OK || err2 != api.OK || len(got) != len(l) || !slices.EqualFunc(got, again, sig.Same) {
			t.Errorf("Sort of many: %d %d", err, err2)
		}
		for range 3000 {
			i := m.Intn(len(got))
			if gr, _ := paths.Greater(x, o, got[i], got[i+m.Intn(len(got)-i)]); gr {
				t.Fatalf("Sort of many by %v: %v stands ahead", o, got[i])
			}
		}
	}
}

// P6.2, P6.4: arguments stay, and results have memory of their own.
func TestNewMemory(t *testing.T) {
	o, m := examples()
	x := nat().Sig
	part := add(s(v(0)), zero())
	l := []api.Term{part, s(part), add(part, part), part}
	kept := []api.Term{twin(l[0]), twin(l[1]), twin(l[2]), twin(l[3])}
	got, _ := paths.Sort(x, o, l)
	met := map[uintptr]bool{}
	for _, y := range got {
		spoil(t, y, met)
	}
	if !slices.EqualFunc(l, kept, sig.Same) {
		t.Errorf("Sort: %v", l)
	}
	a, b := add(s(part), s(part)), add(part, part)
	for _, o := range []api.Order{o, m} {
		p, _, _ := paths.Prove(x, o, a, b)
		q, _, _ := paths.Prove(x, o, a, b)
		if !reflect.DeepEqual(p, q) {
			t.Errorf("Prove: %v, then %v", p, q)
		}
		spoilProof(t, p, met)
		if p, _, _ = paths.Prove(x, o, a, b); !reflect.DeepEqual(p, q) || paths.Verify(x, o, a, b, q) != api.OK {
			t.Errorf("Prove: %v, then %v", q, p)
		}
	}
	f, _, _ := paths.Find(nat())
	g, _, _ := paths.Guess(nat())
	f.Place[0], f.Status[0], g.Place[0], g.Status[0] = 77, 77, 77, 77
	if f, _, _ = paths.Find(nat()); !sameOrder(f, o) {
		t.Errorf("Find: %v", f)
	}
	if paths.Check(nat(), g) == api.OK {
		t.Errorf("Guess: %v", g)
	}
}

// spoil writes over a term's memory, none of which was met.
func spoil(t *testing.T, x api.Term, met map[uintptr]bool) {
	if len(x.L) == 0 {
		return
	}
	if at := reflect.ValueOf(x.L).Pointer(); met[at] {
		t.Errorf("two lists of a result share memory")
	} else {
		met[at] = true
	}
	for i := range x.L {
		spoil(t, x.L[i], met)
		x.L[i] = api.Term{Kind: 77}
	}
}

func spoilProof(t *testing.T, p api.PathProof, met map[uintptr]bool) {
	for _, at := range []uintptr{reflect.ValueOf(p.L).Pointer(), reflect.ValueOf(p.To).Pointer()} {
		if at != 0 && met[at] {
			t.Errorf("two lists of a proof share memory")
		}
		met[at] = true
	}
	for i := range p.L {
		spoilProof(t, p.L[i], met)
		p.L[i] = api.PathProof{Rule: 77}
	}
	for i := range p.To {
		p.To[i] = 77
	}
}
