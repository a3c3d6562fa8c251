package sig

import "madrigal/api"

// filled returns a tree with what as returns in the places of its variables.
func filled(t api.Term, as func(n int) api.Term) api.Term {
	if t.Kind == api.KVar {
		return as(t.N)
	}
	out := api.Term{Kind: t.Kind, N: t.N}
	if len(t.L) > 0 {
		out.L = make([]api.Term, len(t.L))
	}
	for i, x := range t.L {
		out.L[i] = filled(x, as)
	}
	return out
}

func variable(n int) api.Term { return api.Term{Kind: api.KVar, N: n} }

func copied(t api.Term) api.Term { return filled(t, variable) }

// extent is how many nodes there are, and how deep they go.
type extent struct{ nodes, deep int }

func (e extent) isTree() bool { return e.nodes <= api.MaxNodes && e.deep <= api.MaxDeep }

// with returns the extent of a node that gets one more element.
func (e extent) with(x extent) extent {
	return extent{nodes: e.nodes + x.nodes, deep: max(e.deep, x.deep+1)}
}

// filledExtent returns the extent of a tree with trees of these extents in the places of its variables.
func filledExtent(t api.Term, as func(n int) extent) extent {
	if t.Kind == api.KVar {
		return as(t.N)
	}
	out := extent{nodes: 1, deep: 1}
	for _, x := range t.L {
		out = out.with(filledExtent(x, as))
	}
	return out
}

// Subst returns a tree with trees in the places of its variables.
func Subst(t api.Term, l []api.Term) (api.Term, api.Errno) {
	if Tree(t) != api.OK || !areTrees(l) {
		return api.Term{}, api.ErrTerm
	}
	if !visit(t, func(x api.Term) bool { return x.Kind != api.KVar || x.N < len(l) }) {
		return api.Term{}, api.ErrArg
	}
	e := filledExtent(t, func(n int) extent {
		nodes, deep := Size(l[n])
		return extent{nodes, deep}
	})
	if !e.isTree() {
		return api.Term{}, api.ErrLimit
	}
	return filled(t, func(n int) api.Term { return copied(l[n]) }), api.OK
}

// maxShifted is the greatest variable that another one is shifted to.
const maxShifted = 1000000

// Shift returns a tree whose variables from one on have other numbers.
func Shift(t api.Term, from, by int) (api.Term, api.Errno) {
	if Tree(t) != api.OK {
		return api.Term{}, api.ErrTerm
	}
	stays := func(x api.Term) bool { return x.Kind != api.KVar || x.N < from }
	// by alone stands on one side, since sums could be too great for an int.
	can := func(x api.Term) bool { return stays(x) || by >= from-x.N && by <= maxShifted-x.N }
	if from < 0 || !visit(t, can) {
		return api.Term{}, api.ErrArg
	}
	return filled(t, func(n int) api.Term {
		if n >= from {
			n += by
		}
		return variable(n)
	}), api.OK
}

// Normal returns trees whose variables are numbered by their first occurrence, and which ones they were.
func Normal(l []api.Term) ([]api.Term, []int, api.Errno) {
	if !areTrees(l) {
		return nil, nil, api.ErrTerm
	}
	were := variables(l)
	numbers := map[int]int{}
	for i, n := range were {
		numbers[n] = i
	}
	var out []api.Term
	for _, t := range l {
		out = append(out, filled(t, func(n int) api.Term { return variable(numbers[n]) }))
	}
	return out, were, api.OK
}
