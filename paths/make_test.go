package paths_test

import (
	"math/rand"
	"slices"
	"testing"

	"madrigal/api"
	"madrigal/sig"
	"madrigal/types"
)

func v(n int) api.Term { return api.Term{Kind: api.KVar, N: n} }

func op(n int, l ...api.Term) api.Term { return api.Term{Kind: api.KOp, N: n, L: l} }

// The operations of numbers.
func zero() api.Term             { return op(0) }
func s(x api.Term) api.Term      { return op(1, x) }
func add(x, y api.Term) api.Term { return op(2, x, y) }

// flat is a signature with one sort, and operations with that many arguments.
func flat(counts ...int) api.Sig {
	out := api.Sig{Sorts: []string{"nat"}}
	for i, n := range counts {
		out.Ops = append(out.Ops, api.Op{Name: string(rune('a'+i%26)) + string(rune('a'+i/26)), Args: make([]int, n)})
	}
	return out
}

// nat is the type of the chapter's examples: z, s, add.
func nat() api.Type {
	return api.Type{Sig: flat(0, 1, 2), Eqns: []api.Eqn{
		{Vars: []int{0}, A: add(v(0), zero()), B: v(0)},
		{Vars: []int{0, 0}, A: add(v(0), s(v(1))), B: s(add(v(0), v(1)))},
	}}
}

// order has these places, and the same status of all operations.
func order(status int, places ...int) api.Order {
	return api.Order{Place: places, Status: slices.Repeat([]int{status}, len(places))}
}

// The orders of the chapter's examples.
func examples() (o, m api.Order) {
	m = order(api.ByLeft, 0, 0, 1)
	m.Status[2] = api.ByMulti
	return order(api.ByLeft, 0, 0, 1), m
}

// high returns s of s of .. of end, with that many of them.
func high(count int, end api.Term) api.Term {
	for range count {
		end = s(end)
	}
	return end
}

// wide returns a term with as many nodes as said (odd), and few levels, of z and add.
func wide(nodes int) api.Term {
	if nodes < 3 {
		return zero()
	}
	left := nodes / 4 * 2
	if left%2 == 0 {
		left++
	}
	return add(wide(left), wide(nodes-1-left))
}

// doubled returns a term that shares memory, with 2 to the power of levels nodes, and more.
func doubled(levels int) api.Term {
	out := zero()
	for range levels {
		out = add(out, out)
	}
	return out
}

// wrongTerms returns terms that are none of z, s and add.
func wrongTerms() []api.Term {
	return []api.Term{
		{}, {Kind: 3}, {Kind: -1, N: 1}, v(-1), op(-1), {Kind: api.KVar, L: []api.Term{zero()}},
		op(3), op(1<<63 - 1), op(0, zero()), op(1), op(1, zero(), zero()), op(2, zero()),
		s(api.Term{}), s(op(3)), add(v(0), op(1)), add(op(0, v(0)), v(0)),
		high(200, zero()), wide(2001), doubled(62), doubled(60000),
	}
}

// small returns all terms of at most that many levels over z, s, add and these variables.
func small(levels int, vars ...int) []api.Term {
	out := []api.Term{zero()}
	for _, n := range vars {
		out = append(out, v(n))
	}
	if levels > 1 {
		l := small(levels-1, vars...)
		for _, x := range l {
			out = append(out, s(x))
			for _, y := range l {
				out = append(out, add(x, y))
			}
		}
	}
	return out
}

// maker makes things at random.
type maker struct{ *rand.Rand }

func newMaker(seed int64) maker { return maker{rand.New(rand.NewSource(seed))} }

func pick[T any](m maker, l ...T) T { return l[m.Intn(len(l))] }

// order returns an order of a signature; its places are less than below.
func (m maker) order(s api.Sig, below int) api.Order {
	var statuses [api.MaxPlace + 1]int
	for i := range statuses {
		statuses[i] = pick(m, api.ByLeft, api.ByRight, api.ByMulti)
	}
	var out api.Order
	for range s.Ops {
		p := m.Intn(below)
		out.Place, out.Status = append(out.Place, p), append(out.Status, statuses[p])
	}
	return out
}

// term returns a term with about that many nodes; without variables if vars is 0.
func (m maker) term(s api.Sig, nodes, vars int) api.Term {
	var can []int
	for i, o := range s.Ops {
		if (len(o.Args) > 0) == (nodes > 1) {
			can = append(can, i)
		}
	}
	if nodes <= 1 && vars > 0 && m.Intn(3) > 0 {
		return v(m.Intn(vars))
	}
	out := op(pick(m, can...))
	for i := range s.Ops[out.N].Args {
		part := m.Intn(nodes)
		if i == len(s.Ops[out.N].Args)-1 {
			part = nodes - 1
		}
		out.L = append(out.L, m.term(s, part, vars))
		nodes = max(1, nodes-part)
	}
	return out
}

// changed returns a term that is like t: parts are left out, come twice, stand elsewhere, or have another operation.
func (m maker) changed(s api.Sig, t api.Term, vars int) api.Term {
	switch k := m.Intn(14); {
	case k == 0:
		return m.term(s, 2, vars)
	case k == 1 && len(t.L) > 0:
		return m.changed(s, pick(m, t.L...), vars)
	case len(t.L) == 0:
		return t
	}
	out := op(t.N)
	if m.Intn(8) == 0 {
		out.N = m.Intn(len(s.Ops))
	}
	for i := range s.Ops[out.N].Args {
		out.L = append(out.L, m.changed(s, t.L[i%len(t.L)], vars))
	}
	if m.Intn(4) == 0 {
		m.Shuffle(len(out.L), func(i, j int) { out.L[i], out.L[j] = out.L[j], out.L[i] })
	}
	return out
}

// two returns two terms that are alike.
func (m maker) two(s api.Sig, nodes, vars int) (a, b api.Term) {
	a = m.term(s, nodes, vars)
	b = m.changed(s, a, vars)
	if m.Intn(2) == 0 {
		return b, a
	}
	return a, b
}

// eqn returns an equation over a signature of one sort, whose right side is like a part of the left one.
func (m maker) eqn(s api.Sig) api.Eqn {
	var e api.Eqn
	for e.A.Kind != api.KOp {
		e.A = m.term(s, 6, 3)
	}
	e.B = m.lesser(s, e.A)
	for range max(0, m.Intn(5)-2) {
		e.Conds = append(e.Conds, api.Pair{A: m.lesser(s, e.A), B: m.lesser(s, e.A)})
	}
	e.Vars = []int{0, 0, 0}
	return e
}

// lesser returns a term with no other variables than those of a.
func (m maker) lesser(s api.Sig, a api.Term) api.Term {
	for {
		b := m.changed(s, a, 3)
		if len(a.L) > 0 && m.Intn(3) == 0 {
			b = m.changed(s, pick(m, a.L...), 3)
		}
		if !slices.ContainsFunc(varsOf(b), func(n int) bool { return !slices.Contains(varsOf(a), n) }) {
			return b
		}
	}
}

func varsOf(t api.Term) []int { return sig.Vars([]api.Term{t}) }

// typ returns a type with at most that many equations.
func (m maker) typ(s api.Sig, count int) api.Type {
	out := api.Type{Sig: s}
	for range m.Intn(count + 1) {
		out.Eqns = append(out.Eqns, m.eqn(s))
	}
	return out
}

// twin returns a copy in memory of its own.
func twin(t api.Term) api.Term {
	out := api.Term{Kind: t.Kind, N: t.N}
	for _, x := range t.L {
		out.L = append(out.L, twin(x))
	}
	return out
}

func isNone(p api.PathProof) bool {
	return p.Rule == 0 && p.At == 0 && len(p.To) == 0 && len(p.L) == 0
}

func isNoOrder(o api.Order) bool { return len(o.Place) == 0 && len(o.Status) == 0 }

func sameOrder(a, b api.Order) bool {
	return slices.Equal(a.Place, b.Place) && slices.Equal(a.Status, b.Status)
}

func nodesOf(p api.PathProof) int {
	n := 1
	for _, x := range p.L {
		n += nodesOf(x)
	}
	return n
}

func TestMakers(t *testing.T) {
	for n := 1; n < 300; n += 2 {
		if k, _ := sig.Size(wide(n)); k != n {
			t.Fatalf("wide(%d) has %d nodes", n, k)
		}
	}
	m := newMaker(1)
	x := flat(0, 0, 1, 2, 3)
	for range 500 {
		if y := m.typ(x, 5); types.Check(y) != api.OK {
			t.Fatalf("no type: %v", y)
		}
	}
	if types.Check(nat()) != api.OK {
		t.Fatal("nat is no type")
	}
}
