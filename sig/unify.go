package sig

import (
	"slices"

	"madrigal/api"
)

// Unify returns a most general unifier of two trees, and whether there is one.
func Unify(a, b api.Term) ([]api.Term, bool, api.Errno) {
	if Tree(a) != api.OK || Tree(b) != api.OK {
		return nil, false, api.ErrTerm
	}
	top := greatest([]api.Term{a, b})
	if top > maxSolved {
		return nil, false, api.ErrArg
	}
	u := unifier{at: map[int]int{}}
	first := u.plant(a)
	second := u.plant(b)
	equal := u.equate(first, second)
	if u.pairs > api.MaxUnify {
		return nil, false, api.ErrLimit
	}
	if !equal {
		return nil, false, api.OK
	}
	l, err := u.solution(top)
	return l, err == api.OK, err
}

// unifier keeps the nodes of two trees in one list. Each variable is one node of it, so that whatever goes through nodes meets each of them once, however great the trees are that they stand for.
type unifier struct {
	nodes []planted
	at    map[int]int // the nodes of the variables
	pairs int         // how many were looked at
}

type planted struct {
	kind, n int
	l       []int  // the elements
	became  int    // what a variable became; -1: nothing
	extent  extent // with everything put in; no nodes: it is not known
}

// plant adds the nodes of a tree, and returns its root.
func (u *unifier) plant(t api.Term) int {
	if was, met := u.at[t.N]; t.Kind == api.KVar && met {
		return was
	}
	var l []int
	for _, x := range t.L {
		l = append(l, u.plant(x))
	}
	at := len(u.nodes)
	u.nodes = append(u.nodes, planted{kind: t.Kind, n: t.N, l: l, became: -1})
	if t.Kind == api.KVar {
		u.at[t.N] = at
	}
	return at
}

// end returns what a node became in the end: no variable that became something.
func (u *unifier) end(at int) int {
	for u.nodes[at].became >= 0 {
		at = u.nodes[at].became
	}
	return at
}

// equate reports whether variables can become what makes two nodes equal; it gives up where it would look at too many pairs.
func (u *unifier) equate(a, b int) bool {
	u.pairs++
	if u.pairs > api.MaxUnify {
		return false
	}
	a, b = u.end(a), u.end(b)
	x, y := u.nodes[a], u.nodes[b]
	switch {
	case a == b && x.kind == api.KVar:
		return true
	case y.kind == api.KVar && (x.kind != api.KVar || x.n < y.n):
		a, b = b, a
		fallthrough
	case x.kind == api.KVar:
		if u.within(a, b) {
			return false
		}
		u.nodes[a].became = b
		return true
	}
	if x.n != y.n || len(x.l) != len(y.l) {
		return false
	}
	for i := range x.l {
		if !u.equate(x.l[i], y.l[i]) {
			return false
		}
	}
	return true
}

// within reports whether a variable occurs within a node, with everything that was found put in.
func (u *unifier) within(v, at int) bool {
	met := make([]bool, len(u.nodes))
	var look func(at int) bool
	look = func(at int) bool {
		if met[at] {
			return false
		}
		met[at] = true
		x := u.nodes[at]
		return at == v || x.became >= 0 && look(x.became) || slices.ContainsFunc(x.l, look)
	}
	return look(at)
}

// solution returns what each variable became, up to the greatest one.
func (u *unifier) solution(top int) ([]api.Term, api.Errno) {
	for _, at := range u.at {
		if !u.extent(at).isTree() {
			return nil, api.ErrLimit
		}
	}
	out := make([]api.Term, top+1)
	for n := range out {
		if at, met := u.at[n]; met {
			out[n] = u.tree(at)
		} else {
			out[n] = variable(n)
		}
	}
	return out, api.OK
}

// extent returns the extent of a node with everything put in; of what is no tree, one that is none.
func (u *unifier) extent(at int) extent {
	at = u.end(at)
	if known := u.nodes[at].extent; known.nodes > 0 {
		return known
	}
	out := extent{nodes: 1, deep: 1}
	for _, k := range u.nodes[at].l {
		out = out.with(u.extent(k))
	}
	// What is no tree is none within another one: no more need be known, and more would be too great for an int.
	out.nodes = min(out.nodes, api.MaxNodes+1)
	u.nodes[at].extent = out
	return out
}

// tree returns the tree of a node with everything put in.
func (u *unifier) tree(at int) api.Term {
	x := u.nodes[u.end(at)]
	out := api.Term{Kind: x.kind, N: x.n}
	for _, k := range x.l {
		out.L = append(out.L, u.tree(k))
	}
	return out
}
