package sig_test

import (
	"math/rand"
	"slices"
	"testing"

	"madrigal/api"
	"madrigal/sig"
)

// line is what a term is, from left to right: terms are in the order of their lines.
func line(t api.Term) []int {
	out := []int{t.Kind, t.N, len(t.L)}
	for _, x := range t.L {
		out = append(out, line(x)...)
	}
	return out
}

// P4.2, P4.6
func TestOrder(t *testing.T) {
	x, y := v(0), v(1)
	inOrder := []api.Term{
		{Kind: -1 << 63, N: 5}, {Kind: -1}, {}, {N: 1}, {L: []api.Term{{}}, N: 1},
		{Kind: api.KVar, N: -1}, x, {Kind: api.KVar, L: []api.Term{zero()}}, y, v(1<<63 - 1),
		op(-1 << 63), op(-1), zero(), op(0, x), op(0, zero()), op(0, x, x), op(0, x, y), op(0, y, x), op(0, zero(), x),
		s(x), s(y), s(zero()), s(s(x)), s(s(zero())), s(plus(x, x)), op(1, x, x),
		op(2), plus(x, x), plus(x, s(zero())), plus(y, x), plus(s(x), x), {Kind: 3}, {Kind: 1<<63 - 1},
	}
	for i, a := range inOrder {
		for j, b := range inOrder {
			want := 0
			if i != j {
				want = 1 - 2*boolInt(i < j)
			}
			if c := sig.Compare(a, b); c != want {
				t.Errorf("Compare(%v, %v): %d", a, b, c)
			}
			if is := sig.Same(twin(a), b); is != (i == j) {
				t.Errorf("Same(%v, %v): %v", a, b, is)
			}
		}
	}
}

func boolInt(is bool) int {
	if is {
		return 1
	}
	return 0
}

// P4.2, P4.6
func TestOrderOfAnyTerms(t *testing.T) {
	r := rand.New(rand.NewSource(3))
	var l []api.Term
	for range 250 {
		l = append(l, untidy(r, 4))
	}
	l = append(l, small(2, 0, 1)...)
	equal := 0
	for _, a := range l {
		for _, b := range l {
			want := slices.Compare(line(a), line(b))
			if c := sig.Compare(a, b); c != want {
				t.Fatalf("Compare(%v, %v): %d", a, b, c)
			}
			if is := sig.Same(a, b); is != (want == 0) {
				t.Fatalf("Same(%v, %v): %v", a, b, is)
			}
			equal += boolInt(want == 0)
		}
	}
	if equal < 2*len(l) {
		t.Errorf("few are equal: %d", equal)
	}
	// Total: whatever the order of a list is, it is sorted to one.
	slices.SortFunc(l, sig.Compare)
	for i := range l {
		for j := range i {
			if sig.Compare(l[j], l[i]) > 0 {
				t.Fatalf("%v is behind %v", l[j], l[i])
			}
		}
	}
}

// P4.2
func TestSameEmpty(t *testing.T) {
	a, b := api.Term{Kind: api.KOp, L: []api.Term{}}, api.Term{Kind: api.KOp}
	if !sig.Same(a, b) || sig.Compare(a, b) != 0 || !sig.Same(s(a), s(b)) || sig.Compare(b, a) != 0 {
		t.Error("an empty list is not a nil one")
	}
	deep := high(60000, zero())
	if !sig.Same(deep, twin(deep)) || sig.Same(deep, high(60000, v(0))) || sig.Compare(high(60000, v(0)), deep) != -1 {
		t.Error("deep terms")
	}
	broad := op(0, make([]api.Term, 100000)...)
	if !sig.Same(broad, twin(broad)) || sig.Compare(broad, op(0, make([]api.Term, 99999)...)) != 1 {
		t.Error("broad terms")
	}
}

// P4.2
func TestSize(t *testing.T) {
	for _, c := range []struct {
		t           api.Term
		nodes, deep int
	}{
		{v(0), 1, 1}, {zero(), 1, 1}, {s(zero()), 2, 2}, {plus(s(v(0)), zero()), 4, 3}, {plus(zero(), s(v(0))), 4, 3},
		{high(200, zero()), 200, 200}, {high(201, zero()), 2001, 201}, {s(high(200, v(0))), 2001, 201}, {plus(zero(), high(200, zero())), 2001, 201},
		{plus(high(199, zero()), high(199, zero())), 399, 200},
		{api.Term{}, 1, 1}, {op(-1, api.Term{Kind: 9}, v(-1)), 3, 2},
		{op(0, make([]api.Term, 1999)...), 2000, 2}, {op(0, make([]api.Term, 2000)...), 2001, 201}, {op(0, make([]api.Term, 100000)...), 2001, 201},
		{doubled(9), 1023, 10}, {doubled(10), 2001, 201}, {doubled(60), 2001, 201}, {doubled(60000), 2001, 201},
	} {
		if n, d := sig.Size(c.t); n != c.nodes || d != c.deep {
			t.Errorf("Size: %d %d, not %d %d", n, d, c.nodes, c.deep)
		}
	}
	for n := 1990; n < 2010; n++ {
		want, deep := nodesOf(wide(n))
		if n > 2000 {
			want, deep = 2001, 201
		}
		if k, d := sig.Size(wide(n)); k != want || d != deep {
			t.Errorf("Size of %d nodes: %d %d", n, k, d)
		}
	}
	r := rand.New(rand.NewSource(4))
	for range 3000 {
		x := untidy(r, 5)
		n, d := nodesOf(x)
		if k, e := sig.Size(x); k != n || e != d {
			t.Fatalf("Size of %v: %d %d", x, k, e)
		}
	}
}

// P4.2
func TestVars(t *testing.T) {
	for _, c := range []struct {
		l    []api.Term
		want []int
	}{
		{nil, nil}, {[]api.Term{zero()}, nil}, {[]api.Term{v(7)}, []int{7}},
		{[]api.Term{plus(v(3), v(1)), v(3)}, []int{3, 1}},
		{[]api.Term{v(5), plus(s(plus(v(9), v(0))), v(5)), v(2), v(9)}, []int{5, 9, 0, 2}},
		{[]api.Term{v(1<<63 - 1), v(0)}, []int{1<<63 - 1, 0}},
		{[]api.Term{v(0), {}}, nil}, {[]api.Term{{}, v(0)}, nil}, {[]api.Term{v(0), s(v(-1)), v(1)}, nil},
	} {
		if l := sig.Vars(c.l); !slices.Equal(l, c.want) {
			t.Errorf("Vars of %v: %v", c.l, l)
		}
	}
	for _, x := range noTrees() {
		if l := sig.Vars([]api.Term{v(0), x}); len(l) != 0 {
			t.Errorf("Vars: %v", l)
		}
	}
	r := rand.New(rand.NewSource(5))
	for range 2000 {
		l := []api.Term{anyTree(r, 12, 6), anyTree(r, 12, 6)}
		var want []int
		for _, x := range l {
			all := line(x)
			for i := 0; i < len(all); i += 3 {
				if all[i] == api.KVar && !slices.Contains(want, all[i+1]) {
					want = append(want, all[i+1])
				}
			}
		}
		if got := sig.Vars(l); !slices.Equal(got, want) {
			t.Fatalf("Vars of %v: %v", l, got)
		}
		if got, want := sig.Ground(l[0]), len(sig.Vars(l[:1])) == 0; got != want {
			t.Fatalf("Ground of %v: %v", l[0], got)
		}
	}
}

// P4.2
func TestGround(t *testing.T) {
	for _, x := range []api.Term{zero(), op(9), s(zero()), plus(zero(), s(zero())), high(200, zero()), wide(2000)} {
		if !sig.Ground(x) {
			t.Errorf("not ground: %v", x)
		}
	}
	for _, x := range []api.Term{v(0), s(v(0)), plus(zero(), s(v(3))), plus(v(1), zero()), high(200, v(0))} {
		if sig.Ground(x) {
			t.Errorf("ground: %v", x)
		}
	}
	for _, x := range noTrees() {
		if sig.Ground(x) {
			t.Errorf("ground: no tree")
		}
	}
}
