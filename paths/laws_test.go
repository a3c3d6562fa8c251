package paths_test

import (
	"slices"
	"testing"

	"madrigal/api"
	"madrigal/paths"
	"madrigal/sig"
)

func greater(t *testing.T, x api.Sig, o api.Order, a, b api.Term) bool {
	t.Helper()
	is, err := paths.Greater(x, o, a, b)
	if err != api.OK {
		t.Fatalf("Greater of %v and %v by %v: %d", a, b, o, err)
	}
	return is
}

func equal(t *testing.T, x api.Sig, o api.Order, a, b api.Term) bool {
	t.Helper()
	is, err := paths.Equal(x, o, a, b)
	if err != api.OK {
		t.Fatalf("Equal of %v and %v by %v: %d", a, b, o, err)
	}
	return is
}

// terms returns terms that are alike, so that many of them are greater than others.
func (m maker) terms(x api.Sig, count, vars int) []api.Term {
	out := []api.Term{m.term(x, 5, vars)}
	for len(out) < count {
		y := m.changed(x, pick(m, out...), vars)
		if m.Intn(4) == 0 {
			y = m.term(x, 1+m.Intn(6), vars)
		}
		if n, _ := sig.Size(y); n < 25 {
			out = append(out, y)
		}
	}
	return out
}

// P6.5, P6.7, P6.13: irreflexive, transitive; equal terms are an equivalence, and greater and less than the same ones.
func TestOrderLaws(t *testing.T) {
	m := newMaker(12)
	x := flat(0, 0, 1, 1, 2, 2, 3, 3, 8)
	equals, chains := 0, 0
	for range 60 {
		o := m.order(x, pick(m, 1, 2, 3, 256))
		l := m.terms(x, 30, m.Intn(3))
		gr, eq := map[[2]int]bool{}, map[[2]int]bool{}
		for i, a := range l {
			for j, b := range l {
				gr[[2]int{i, j}], eq[[2]int{i, j}] = greater(t, x, o, a, b), equal(t, x, o, a, b)
			}
		}
		for i, a := range l {
			if gr[[2]int{i, i}] || !eq[[2]int{i, i}] {
				t.Fatalf("by %v, %v and itself", o, a)
			}
			for j, b := range l {
				ij := [2]int{i, j}
				if eq[ij] != eq[[2]int{j, i}] || eq[ij] && gr[ij] || gr[ij] && gr[[2]int{j, i}] {
					t.Fatalf("by %v, %v and %v", o, a, b)
				}
				if eq[ij] && i != j {
					equals++
				}
				for k, c := range l {
					ik, jk := [2]int{i, k}, [2]int{j, k}
					if gr[ij] && (gr[jk] || eq[jk]) && !gr[ik] || eq[ij] && (gr[jk] != gr[ik] || eq[jk] != eq[ik] || gr[[2]int{k, i}] != gr[[2]int{k, j}]) {
						t.Fatalf("by %v, %v and %v and %v", o, a, b, c)
					}
					if gr[ij] && gr[jk] {
						chains++
					}
				}
			}
		}
	}
	if equals < 500 || chains < 10000 {
		t.Errorf("%d equal ones, %d chains", equals, chains)
	}
}

// P6.5: a term is greater than all others within it.
func TestWithin(t *testing.T) {
	m := newMaker(13)
	x := flat(0, 0, 1, 1, 2, 2, 3, 3, 8)
	for range 3000 {
		o := m.order(x, pick(m, 1, 2, 3, 256))
		a := m.term(x, 1+m.Intn(12), m.Intn(3))
		l, _ := sig.Paths(a)
		for _, at := range l[1:] {
			b, _ := sig.At(a, at)
			if !greater(t, x, o, a, b) {
				t.Fatalf("by %v, %v and %v within", o, a, b)
			}
		}
	}
}

// P6.5: what is greater is so with any terms in the place of variables, and as a part of any other term.
func TestInstancesAndParts(t *testing.T) {
	m := newMaker(14)
	x := flat(0, 0, 1, 1, 2, 2, 3, 3, 8)
	met := 0
	for range 15000 {
		o := m.order(x, pick(m, 1, 2, 3, 256))
		a, b := m.two(x, 2+m.Intn(10), 3)
		if !greater(t, x, o, a, b) {
			continue
		}
		met++
		with := []api.Term{m.term(x, 1+m.Intn(4), 3), m.term(x, 1+m.Intn(4), 2), m.term(x, 1, 2)}
		c, _ := sig.Subst(a, with)
		d, _ := sig.Subst(b, with)
		if !greater(t, x, o, c, d) {
			t.Fatalf("by %v, %v and %v, but not with %v", o, a, b, with)
		}
		whole := m.term(x, 1+m.Intn(8), 3)
		l, _ := sig.Paths(whole)
		at := pick(m, l...)
		c, _ = sig.Put(whole, at, a)
		d, _ = sig.Put(whole, at, b)
		if !greater(t, x, o, c, d) {
			t.Fatalf("by %v, %v and %v, but not within %v at %v", o, a, b, whole, at)
		}
	}
	if met < 3000 {
		t.Errorf("%d of them", met)
	}
}

// stepped returns all terms to which a step of rewriting leads.
func stepped(t *testing.T, y api.Type, a api.Term) []api.Term {
	var out []api.Term
	l, _ := sig.Paths(a)
	for _, at := range l {
		part, _ := sig.At(a, at)
		for _, e := range y.Eqns {
			with, is, err := sig.Match(e.A, part)
			if err != api.OK {
				t.Fatalf("Match: %d", err)
			}
			if !is {
				continue
			}
			for i := range with {
				if with[i].Kind == 0 {
					with[i] = op(0)
				}
			}
			b, err := sig.Subst(e.B, with)
			if err != api.OK {
				continue
			}
			if b, err = sig.Put(a, at, b); err == api.OK {
				out = append(out, b)
			}
		}
	}
	return out
}

// start returns a term with instances of left sides within.
func (m maker) start(x api.Sig, y api.Type) api.Term {
	a := m.term(x, 4+m.Intn(8), 2)
	for range 3 {
		if len(y.Eqns) == 0 {
			return a
		}
		b, _ := sig.Subst(pick(m, y.Eqns...).A, []api.Term{a, m.term(x, 1+m.Intn(3), 2), m.term(x, 1, 2)})
		l, _ := sig.Paths(a)
		a, _ = sig.Put(a, pick(m, l...), b)
	}
	return a
}

// P6.5, P6.13: each step of rewriting leads to a lesser term, so it ends, and no term comes twice.
func TestRewritingEnds(t *testing.T) {
	m := newMaker(15)
	x := flat(0, 0, 1, 1, 2, 2, 3)
	types, steps := 0, 0
	try := func(y api.Type, o api.Order) {
		types++
		for range 2 {
			chain := []api.Term{m.start(x, y)}
			for len(chain) < 20 {
				next := stepped(t, y, chain[len(chain)-1])
				if len(next) == 0 {
					break
				}
				chain = append(chain, pick(m, next...))
				steps++
			}
			for i, a := range chain {
				for _, b := range chain[i+1:] {
					if sig.Same(a, b) || !greater(t, x, o, a, b) {
						t.Fatalf("by %v, %v leads to %v", y, a, b)
					}
				}
			}
		}
	}
	for range 150 {
		y := m.typ(x, 5)
		if o, is, _ := paths.Guess(y); is {
			try(y, o)
		}
		o := m.order(x, pick(m, 1, 3, 256))
		for {
			k, is, _ := paths.Blame(y, o)
			if !is {
				break
			}
			y.Eqns = without(y.Eqns, k)
		}
		try(y, o)
	}
	if types < 150 || steps < 500 {
		t.Errorf("%d types, %d steps", types, steps)
	}
}

// P6.8
func TestGroundTerms(t *testing.T) {
	m := newMaker(16)
	x := flat(0, 0, 1, 1, 2, 2, 3, 3, 8)
	var met [3]int
	for range 200 {
		o := m.order(x, pick(m, 1, 2, 3, 256))
		l := m.terms(x, 15, 0)
		for _, a := range l {
			for _, b := range l {
				count := 0
				for i, is := range []bool{greater(t, x, o, a, b), greater(t, x, o, b, a), equal(t, x, o, a, b)} {
					if is {
						met[i]++
						count++
					}
				}
				if count != 1 {
					t.Fatalf("by %v, %v and %v: %d of three", o, a, b, count)
				}
			}
		}
	}
	for _, a := range small(3) {
		for _, b := range small(3) {
			o, _ := examples()
			if x := nat().Sig; greater(t, x, o, a, b) == (greater(t, x, o, b, a) || equal(t, x, o, a, b)) {
				t.Fatalf("%v and %v", a, b)
			}
		}
	}
	if slices.Min(met[:]) < 3000 {
		t.Errorf("%v", met)
	}
}

// P6.11
func TestGreaterPlaces(t *testing.T) {
	m := newMaker(17)
	x := flat(0, 0, 1, 1, 2, 2, 3, 3)
	met := map[bool]int{}
	for range 6000 {
		o := m.order(x, pick(m, 1, 2, 3, 20))
		// Strictly increasing numbers, up to 255.
		to := m.Perm(api.MaxPlace + 1)[:20]
		slices.Sort(to)
		p := api.Order{Status: o.Status}
		for _, n := range o.Place {
			p.Place = append(p.Place, to[n])
		}
		a, b := m.two(x, 2+m.Intn(8), m.Intn(3))
		gr := greater(t, x, o, a, b)
		if gr != greater(t, x, p, a, b) || equal(t, x, o, a, b) != equal(t, x, p, a, b) {
			t.Fatalf("by %v and %v, %v and %v", o, p, a, b)
		}
		met[gr]++
		if proof, is, _ := paths.Prove(x, o, a, b); is && paths.Verify(x, p, a, b, proof) != api.OK {
			t.Fatalf("by %v and %v, %v and %v: %v", o, p, a, b, proof)
		}
		y := m.typ(x, 3)
		if paths.Check(y, o) != paths.Check(y, p) {
			t.Fatalf("by %v and %v, %v", o, p, y)
		}
		l := m.terms(x, 6, 2)
		c, _ := paths.Sort(x, o, l)
		d, _ := paths.Sort(x, p, l)
		if !slices.EqualFunc(c, d, sig.Same) {
			t.Fatalf("by %v and %v, Sort of %v", o, p, l)
		}
	}
	if met[true] < 1000 || met[false] < 1000 {
		t.Errorf("%v", met)
	}
}

// P6.13
func TestChains(t *testing.T) {
	m := newMaker(18)
	x := flat(0, 0, 1, 1, 2, 2, 3)
	longest := 0
	for range 300 {
		o := m.order(x, pick(m, 1, 2, 3, 256))
		l := m.terms(x, 40, m.Intn(3))
		m.Shuffle(len(l), func(i, j int) { l[i], l[j] = l[j], l[i] })
		var chain []api.Term
		for _, y := range l {
			// Each one next to those that let it in.
			at := 0
			for at < len(chain) && greater(t, x, o, chain[at], y) {
				at++
			}
			if at == len(chain) || greater(t, x, o, y, chain[at]) {
				chain = slices.Insert(chain, at, y)
			}
		}
		for i, a := range chain {
			for _, b := range chain[i+1:] {
				if sig.Same(a, b) || equal(t, x, o, a, b) || !greater(t, x, o, a, b) || greater(t, x, o, b, a) {
					t.Fatalf("by %v, %v ahead of %v", o, a, b)
				}
			}
		}
		longest = max(longest, len(chain))
	}
	if longest < 15 {
		t.Errorf("at most %d terms", longest)
	}
}
