package sig

import "madrigal/api"

// maxSolved is the greatest variable that is matched or unified.
const maxSolved = 4000

// Match returns what the variables of a pattern are in a tree, and whether it is an instance.
func Match(p, t api.Term) ([]api.Term, bool, api.Errno) {
	if Tree(p) != api.OK || Tree(t) != api.OK {
		return nil, false, api.ErrTerm
	}
	top := greatest([]api.Term{p})
	if top > maxSolved {
		return nil, false, api.ErrArg
	}
	found := map[int]api.Term{}
	if !matches(p, t, found) {
		return nil, false, api.OK
	}
	out := make([]api.Term, top+1)
	for n, x := range found {
		out[n] = copied(x)
	}
	return out, true, api.OK
}

// matches reports whether a tree is an instance of a pattern with what was found of its variables, to which it adds.
func matches(p, t api.Term, found map[int]api.Term) bool {
	if p.Kind == api.KVar {
		was, met := found[p.N]
		found[p.N] = t
		return !met || Same(was, t)
	}
	if p.Kind != t.Kind || p.N != t.N || len(p.L) != len(t.L) {
		return false
	}
	for i := range p.L {
		if !matches(p.L[i], t.L[i], found) {
			return false
		}
	}
	return true
}
