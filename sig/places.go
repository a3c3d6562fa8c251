package sig

import "madrigal/api"

// Paths returns the places of a tree.
func Paths(t api.Term) ([][]int, api.Errno) {
	if Tree(t) != api.OK {
		return nil, api.ErrTerm
	}
	var out [][]int
	var look func(t api.Term, at []int)
	look = func(t api.Term, at []int) {
		out = append(out, at)
		for i, x := range t.L {
			// Without room behind it, at is copied: its elements' places share no memory.
			look(x, append(at[:len(at):len(at)], i))
		}
	}
	look(t, nil)
	return out, api.OK
}

// At returns what stands at a place of a tree.
func At(t api.Term, path []int) (api.Term, api.Errno) {
	if Tree(t) != api.OK {
		return api.Term{}, api.ErrTerm
	}
	for _, i := range path {
		if !isBelow(i, len(t.L)) {
			return api.Term{}, api.ErrPath
		}
		t = t.L[i]
	}
	return copied(t), api.OK
}

// Put returns a tree with another one at a place.
func Put(t api.Term, path []int, u api.Term) (api.Term, api.Errno) {
	if Tree(u) != api.OK {
		return api.Term{}, api.ErrTerm
	}
	if _, err := At(t, path); err != api.OK {
		return api.Term{}, err
	}
	out := replaced(t, path, u)
	if n, _ := Size(out); n > api.MaxNodes {
		return api.Term{}, api.ErrLimit
	}
	return out, api.OK
}

// replaced returns a tree with u at a place that it has.
func replaced(t api.Term, path []int, u api.Term) api.Term {
	if len(path) == 0 {
		return copied(u)
	}
	out := api.Term{Kind: t.Kind, N: t.N}
	for i, x := range t.L {
		if i == path[0] {
			out.L = append(out.L, replaced(x, path[1:], u))
		} else {
			out.L = append(out.L, copied(x))
		}
	}
	return out
}
