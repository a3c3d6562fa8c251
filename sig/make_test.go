package sig_test

import (
	"math/rand"
	"slices"
	"testing"

	"madrigal/api"
	"madrigal/sig"
)

func v(n int) api.Term { return api.Term{Kind: api.KVar, N: n} }

func op(n int, l ...api.Term) api.Term { return api.Term{Kind: api.KOp, N: n, L: l} }

// The operations of numbers.
func zero() api.Term              { return op(0) }
func s(x api.Term) api.Term       { return op(1, x) }
func plus(x, y api.Term) api.Term { return op(2, x, y) }
func eq(x, y api.Term) api.Term   { return op(3, x, y) }

// numbers is the signature of the chapter's examples.
func numbers() api.Sig {
	return api.Sig{Sorts: []string{"nat", "bool"}, Ops: []api.Op{{Name: "0"}, {Name: "s", Args: []int{0}}, {Name: "_+_", Args: []int{0, 0}}, {Name: "_eq_", Args: []int{0, 0}, Res: 1}}}
}

// high returns a tree that is as deep as said.
func high(deep int, end api.Term) api.Term {
	for range deep - 1 {
		end = s(end)
	}
	return end
}

// wide returns a tree with as many nodes as said, at most 8 elements a node, and few levels.
func wide(nodes int) api.Term {
	out := zero()
	left := nodes - 1
	for i := 0; i < api.MaxArgs && left > 0; i++ {
		part := (left + api.MaxArgs - i - 1) / (api.MaxArgs - i)
		out.L = append(out.L, wide(part))
		left -= part
	}
	return out
}

// doubled returns a term that shares memory, with 2 to the power of levels nodes, and more.
func doubled(levels int) api.Term {
	out := zero()
	for range levels {
		out = plus(out, out)
	}
	return out
}

// noTrees returns terms that are no trees.
func noTrees() []api.Term {
	nine := make([]api.Term, api.MaxArgs+1)
	for i := range nine {
		nine[i] = zero()
	}
	return []api.Term{
		{}, {Kind: 3}, {Kind: -1}, {Kind: 0, N: 1},
		v(-1), op(-1), v(-1 << 63), op(-1 << 63),
		{Kind: api.KVar, L: []api.Term{zero()}}, {Kind: api.KVar, L: []api.Term{{}}},
		op(0, nine...), s(op(0, nine...)),
		s(api.Term{}), plus(zero(), v(-1)), plus(op(-1), zero()), plus(zero(), s(s(api.Term{Kind: api.KVar, L: []api.Term{v(0)}}))),
		high(api.MaxDeep+1, zero()), high(api.MaxDeep+1, v(0)), high(5000, zero()),
		wide(api.MaxNodes + 1), wide(20000), doubled(62), s(doubled(150)), doubled(60000),
	}
}

// edges returns trees at the limits.
func edges() []api.Term {
	eight := make([]api.Term, api.MaxArgs)
	for i := range eight {
		eight[i] = v(i)
	}
	return []api.Term{
		v(0), op(0), v(1<<63 - 1), op(1<<63 - 1), op(1000, v(7)), op(5, eight...), {Kind: api.KVar, L: []api.Term{}}, {Kind: api.KOp, L: []api.Term{}},
		high(api.MaxDeep, zero()), high(api.MaxDeep, v(3)), wide(api.MaxNodes), doubled(9),
	}
}

// small returns all trees of at most that many levels over 0, s, _+_ and these variables.
func small(levels int, vars ...int) []api.Term {
	out := []api.Term{zero()}
	for _, n := range vars {
		out = append(out, v(n))
	}
	if levels > 1 {
		l := small(levels-1, vars...)
		for _, x := range l {
			out = append(out, s(x))
			for _, y := range l {
				out = append(out, plus(x, y))
			}
		}
	}
	return out
}

// any tree over a few operations and variables; nodes bounds its size.
func anyTree(r *rand.Rand, nodes, vars int) api.Term {
	if nodes <= 1 || r.Intn(6) == 0 {
		if r.Intn(3) == 0 {
			return op(r.Intn(2))
		}
		return v(r.Intn(vars))
	}
	n := r.Intn(4)
	out := op(10*n+r.Intn(2), make([]api.Term, n)...)
	for i := range out.L {
		out.L[i] = anyTree(r, (nodes-1)/n, vars)
	}
	return out
}

// untidy is any term, tree or not, of few nodes.
func untidy(r *rand.Rand, levels int) api.Term {
	out := api.Term{Kind: r.Intn(4) - 1 + r.Intn(2), N: r.Intn(3) - 1}
	if levels > 1 && r.Intn(2) == 0 {
		for range r.Intn(3) {
			out.L = append(out.L, untidy(r, levels-1))
		}
	}
	return out
}

// put returns t with l in the places of its variables, whatever is no variable of l's.
func put(t api.Term, l []api.Term) api.Term {
	if t.Kind == api.KVar {
		return l[t.N]
	}
	out := api.Term{Kind: t.Kind, N: t.N}
	for _, x := range t.L {
		out.L = append(out.L, put(x, l))
	}
	return out
}

// sameLists reports whether two lists have the same terms.
func sameLists(a, b []api.Term) bool { return slices.EqualFunc(a, b, equal) }

// equal is Same, written by itself.
func equal(a, b api.Term) bool {
	if a.Kind != b.Kind || a.N != b.N || len(a.L) != len(b.L) {
		return false
	}
	for i := range a.L {
		if !equal(a.L[i], b.L[i]) {
			return false
		}
	}
	return true
}

// scribble writes over all of a term's memory.
func scribble(t api.Term) {
	for i := range t.L[:cap(t.L)] {
		scribble(t.L[:cap(t.L)][i])
		t.L[:cap(t.L)][i] = api.Term{Kind: 77, N: -77}
	}
}

func scribbleAll(l []api.Term) {
	for i := range l {
		scribble(l[i])
		l[i] = api.Term{Kind: 77, N: -77}
	}
}

// twin returns a copy in memory of its own.
func twin(t api.Term) api.Term {
	out := api.Term{Kind: t.Kind, N: t.N}
	for _, x := range t.L {
		out.L = append(out.L, twin(x))
	}
	return out
}

func twins(l []api.Term) []api.Term {
	var out []api.Term
	for _, x := range l {
		out = append(out, twin(x))
	}
	return out
}

func isZero(t api.Term) bool { return t.Kind == 0 && t.N == 0 && t.L == nil }

// nodesOf counts a term's nodes and levels.
func nodesOf(t api.Term) (int, int) {
	nodes, deep := 1, 0
	for _, x := range t.L {
		n, d := nodesOf(x)
		nodes += n
		deep = max(deep, d)
	}
	return nodes, deep + 1
}

func TestMakers(t *testing.T) {
	for n := range 300 {
		if k, _ := nodesOf(wide(n + 1)); k != n+1 {
			t.Fatalf("wide(%d) has %d nodes", n+1, k)
		}
		if _, d := nodesOf(high(n+1, zero())); d != n+1 {
			t.Fatalf("high(%d) is %d deep", n+1, d)
		}
	}
	if _, d := nodesOf(wide(api.MaxNodes)); d > 6 {
		t.Fatalf("wide is %d deep", d)
	}
	for _, x := range edges() {
		if sig.Tree(x) != api.OK {
			t.Errorf("no tree: %v", x)
		}
	}
}
