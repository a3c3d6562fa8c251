package types

import (
	"iter"
	"slices"

	"madrigal/api"
	"madrigal/sig"
)

// sides are the terms of an equation: of A and B, and then of each condition.
func sides(e api.Eqn) iter.Seq[api.Term] {
	return func(yield func(api.Term) bool) {
		if !yield(e.A) || !yield(e.B) {
			return
		}
		for _, c := range e.Conds {
			if !yield(c.A) || !yield(c.B) {
				return
			}
		}
	}
}

// isEqn reports whether e is an equation over a signature; it is none over what is no signature.
func isEqn(s api.Sig, e api.Eqn) bool {
	if len(e.Vars) > api.MaxVars || len(e.Conds) > api.MaxConds || !areBelow(e.Vars, len(s.Sorts)) || e.A.Kind == api.KVar {
		return false
	}
	var l []api.Term
	var sorts []int
	for t := range sides(e) {
		k, is := promised(s, e.Vars, t)
		// Both terms of a pair have one sort.
		if !is || len(l)%2 == 1 && k != sorts[len(l)-1] {
			return false
		}
		l, sorts = append(l, t), append(sorts, k)
	}
	found, err := sig.Infer(s, l, sorts)
	// The variables of A come first: there are no others, if they are as many as all.
	return err == api.OK && haveSorts(e.Vars, found) && len(sig.Vars(l[:1])) == len(sig.Vars(l))
}

func areBelow(l []int, end int) bool {
	return !slices.ContainsFunc(l, func(n int) bool { return n < 0 || n >= end })
}

// promised returns the sort that a term has if it is one.
func promised(s api.Sig, vars []int, t api.Term) (int, bool) {
	switch {
	case t.N < 0:
		return 0, false
	case t.Kind == api.KVar && t.N < len(vars):
		return vars[t.N], true
	case t.Kind == api.KOp && t.N < len(s.Ops):
		return s.Ops[t.N].Res, true
	}
	return 0, false
}

// haveSorts reports whether variables have the sorts that were found for those that occur.
func haveSorts(vars, found []int) bool {
	for n, k := range found {
		if k >= 0 && (n >= len(vars) || vars[n] != k) {
			return false
		}
	}
	return true
}

// standard returns an equation, made standard. All its variables occur in A, which comes first.
func standard(e api.Eqn) api.Eqn {
	l, were, _ := sig.Normal(slices.Collect(sides(e)))
	out := api.Eqn{Vars: through(e.Vars, were), A: l[0], B: l[1]}
	for pair := range slices.Chunk(l[2:], 2) {
		out.Conds = append(out.Conds, api.Pair{A: pair[0], B: pair[1]})
	}
	return out
}

// written returns an equation of a type as a text that no other one has. Its numbers are less than 256. Operations say how many elements they have, and which sorts the variables have.
func written(e api.Eqn) string {
	var out []byte
	var write func(api.Term)
	write = func(t api.Term) {
		out = append(out, byte(t.Kind), byte(t.N))
		for _, x := range t.L {
			write(x)
		}
	}
	for t := range sides(e) {
		write(t)
	}
	return string(out)
}
