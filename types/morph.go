package types

import (
	"slices"

	"madrigal/api"
	"madrigal/sig"
)

// CheckMorph returns ErrMorph unless m is a morphism.
func CheckMorph(from, to api.Sig, m api.Morph) api.Errno {
	switch {
	case !areSigs(from, to):
		return api.ErrType
	case !isMorph(from, to, m):
		return api.ErrMorph
	}
	return api.OK
}

func areSigs(l ...api.Sig) bool {
	return !slices.ContainsFunc(l, func(s api.Sig) bool { return sig.Check(s) != api.OK })
}

// isMorph reports whether m is a morphism of what are signatures, but for their sizes.
func isMorph(from, to api.Sig, m api.Morph) bool {
	if len(m.Sorts) != len(from.Sorts) || len(m.Ops) != len(from.Ops) || !areBelow(m.Sorts, len(to.Sorts)) || !areBelow(m.Ops, len(to.Ops)) {
		return false
	}
	for i, o := range from.Ops {
		p := to.Ops[m.Ops[i]]
		if m.Sorts[o.Res] != p.Res || !slices.Equal(through(m.Sorts, o.Args), p.Args) {
			return false
		}
	}
	return true
}

// through returns what a list has at these places.
func through(l, at []int) []int {
	var out []int
	for _, n := range at {
		out = append(out, l[n])
	}
	return out
}

// Identity returns the morphism of a signature to itself.
func Identity(s api.Sig) (api.Morph, api.Errno) {
	if !areSigs(s) {
		return api.Morph{}, api.ErrType
	}
	return identity(len(s.Sorts), len(s.Ops)), api.OK
}

func identity(sorts, ops int) api.Morph {
	return api.Morph{Sorts: counted(sorts), Ops: counted(ops)}
}

func counted(n int) []int {
	out := make([]int, n)
	for i := range out {
		out[i] = i
	}
	return out
}

// Compose returns the morphism that is the first one, and then the second one.
func Compose(a, b, c api.Sig, m, n api.Morph) (api.Morph, api.Errno) {
	switch {
	case !areSigs(a, b, c):
		return api.Morph{}, api.ErrType
	case !isMorph(a, b, m) || !isMorph(b, c, n):
		return api.Morph{}, api.ErrMorph
	}
	return api.Morph{Sorts: through(n.Sorts, m.Sorts), Ops: through(n.Ops, m.Ops)}, api.OK
}

// Image returns a term under a morphism.
func Image(from, to api.Sig, m api.Morph, t api.Term) (api.Term, api.Errno) {
	if err := CheckMorph(from, to, m); err != api.OK {
		return api.Term{}, err
	}
	if !isTerm(from, t) {
		return api.Term{}, api.ErrTerm
	}
	return termBy(m)(t), api.OK
}

// isTerm reports whether t is a term over a signature and some sorts of variables.
func isTerm(s api.Sig, t api.Term) bool {
	if t.Kind == api.KVar {
		return sig.Tree(t) == api.OK && t.N < api.MaxVars
	}
	k, is := promised(s, nil, t)
	if !is {
		return false
	}
	found, err := sig.Infer(s, []api.Term{t}, []int{k})
	return err == api.OK && len(found) <= api.MaxVars
}

// ImageEqn returns an equation under a morphism.
func ImageEqn(from, to api.Sig, m api.Morph, e api.Eqn) (api.Eqn, api.Errno) {
	if err := CheckMorph(from, to, m); err != api.OK {
		return api.Eqn{}, err
	}
	if !isEqn(from, e) {
		return api.Eqn{}, api.ErrType
	}
	return eqnBy(m)(e), api.OK
}

// termBy returns what translates terms.
func termBy(m api.Morph) func(api.Term) api.Term {
	var image func(api.Term) api.Term
	image = func(t api.Term) api.Term {
		out := api.Term{Kind: t.Kind, N: t.N}
		if t.Kind == api.KOp {
			out.N = m.Ops[t.N]
		}
		for _, x := range t.L {
			out.L = append(out.L, image(x))
		}
		return out
	}
	return image
}

// eqnBy returns what translates equations.
func eqnBy(m api.Morph) func(api.Eqn) api.Eqn {
	image := termBy(m)
	return func(e api.Eqn) api.Eqn {
		out := api.Eqn{Vars: through(m.Sorts, e.Vars), A: image(e.A), B: image(e.B)}
		for _, c := range e.Conds {
			out.Conds = append(out.Conds, api.Pair{A: image(c.A), B: image(c.B)})
		}
		return out
	}
}

// opBy returns what translates the sorts of operations.
func opBy(sorts []int) func(api.Op) api.Op {
	return func(o api.Op) api.Op {
		return api.Op{Name: o.Name, Args: through(sorts, o.Args), Res: sorts[o.Res]}
	}
}
