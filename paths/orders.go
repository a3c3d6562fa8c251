package paths

import (
	"cmp"
	"iter"
	"slices"

	"madrigal/api"
)

// operations shows each operation of a term to look.
func operations(t api.Term, look func(n int)) {
	if t.Kind == api.KOp {
		look(t.N)
	}
	for _, x := range t.L {
		operations(x, look)
	}
}

// occurring returns the operations that occur in equations over a signature, increasing.
func occurring(s api.Sig, l ...api.Eqn) []int {
	met := make([]bool, len(s.Ops))
	for _, e := range l {
		for _, x := range append(lesser(e), e.A) {
			operations(x, func(n int) { met[n] = true })
		}
	}
	var out []int
	for n, is := range met {
		if is {
			out = append(out, n)
		}
	}
	return out
}

// orders are the orders for a type with a signature in whose equations these operations occur, the first one ahead.
func orders(s api.Sig, ops []int) iter.Seq[api.Order] {
	return func(yield func(api.Order) bool) {
		for places := range lists(len(ops), 0, len(ops)-1) {
			if !isDense(places) {
				continue
			}
			for statuses := range lists(len(ops), api.ByLeft, api.ByMulti) {
				o := orderWith(s, ops, places, statuses)
				if isOrder(s, o) && !yield(o) {
					return
				}
			}
		}
	}
}

// lists are the lists of that many numbers from low to high, in order. Each one lasts until the next one.
func lists(count, low, high int) iter.Seq[[]int] {
	return func(yield func([]int) bool) {
		l := slices.Repeat([]int{low}, count)
		for yield(l) {
			at := count - 1
			for at >= 0 && l[at] == high {
				l[at] = low
				at--
			}
			if at < 0 {
				return
			}
			l[at]++
		}
	}
}

// isDense reports whether each number from 0 to the greatest one is in a list.
func isDense(l []int) bool {
	return !slices.ContainsFunc(l, func(n int) bool { return n > 0 && !slices.Contains(l, n-1) })
}

// orderWith returns what has these places and statuses of some operations.
func orderWith(s api.Sig, ops, places, statuses []int) api.Order {
	o := api.Order{Place: slices.Repeat([]int{api.MaxPlace}, len(s.Ops)), Status: slices.Repeat([]int{api.ByLeft}, len(s.Ops))}
	for i, n := range ops {
		o.Place[n], o.Status[n] = places[i], statuses[i]
	}
	return o
}

// likely returns an order by which all equations decrease, and whether it comes to one. An operation has a greater place than those that define it; if they define each other, their places are equal. All are ByLeft at first; where an equation does not decrease, some place is given another status, by which those ahead still decrease.
func likely(t api.Type) (api.Order, bool) {
	o := api.Order{Place: levels(defining(t)), Status: slices.Repeat([]int{api.ByLeft}, len(t.Sig.Ops))}
	for {
		k, is := blamed(t, o)
		if !is {
			return o, true
		}
		better, can := repaired(t, o, k)
		if !can {
			return api.Order{}, false
		}
		o = better
	}
}

// repaired returns an order by which the equations up to k decrease, and whether there is one that differs from o in the status of one place.
func repaired(t api.Type, o api.Order, k int) (api.Order, bool) {
	for p := range restated(t.Sig, o, t.Eqns[k]) {
		fails := func(e api.Eqn) bool { return !decreases(e, p) }
		if !fails(t.Eqns[k]) && !slices.ContainsFunc(t.Eqns[:k], fails) {
			return p, true
		}
	}
	return api.Order{}, false
}

// restated are the orders that differ from o in the status of one place that operations of an equation have.
func restated(s api.Sig, o api.Order, e api.Eqn) iter.Seq[api.Order] {
	return func(yield func(api.Order) bool) {
		for _, n := range occurring(s, e) {
			for status := api.ByLeft; status <= api.ByMulti; status++ {
				if status != o.Status[n] && !yield(withStatus(o, o.Place[n], status)) {
					return
				}
			}
		}
	}
}

// withStatus returns an order with a status of all operations that have a place.
func withStatus(o api.Order, place, status int) api.Order {
	out := api.Order{Place: slices.Clone(o.Place), Status: slices.Clone(o.Status)}
	for n, p := range out.Place {
		if p == place {
			out.Status[n] = status
		}
	}
	return out
}

// defining returns for each operation whether another one defines it: it is the operation itself, or stands in an equation whose left side begins with it, or defines one that does.
func defining(t api.Type) [][]bool {
	out := make([][]bool, len(t.Sig.Ops))
	for n := range out {
		out[n] = make([]bool, len(out))
		out[n][n] = true
	}
	for _, e := range t.Eqns {
		for _, x := range lesser(e) {
			operations(x, func(n int) { out[e.A.N][n] = true })
		}
	}
	for by := range out {
		for n := range out {
			for k := range out {
				out[n][k] = out[n][k] || out[n][by] && out[by][k]
			}
		}
	}
	return out
}

// levels returns places such that operations that define each other have equal ones, and others have different ones, lesser ones if they define.
func levels(by [][]bool) []int {
	first := func(n int) int { // of those that define each other
		return firstBelow(n+1, func(k int) bool { return by[n][k] && by[k][n] })
	}
	count := func(n int) int {
		out := 0
		for _, is := range by[n] {
			if is {
				out++
			}
		}
		return out
	}
	var firsts []int
	for n := range by {
		if first(n) == n {
			firsts = append(firsts, n)
		}
	}
	// What defines n, and is not defined by it, is defined by fewer.
	slices.SortStableFunc(firsts, func(a, b int) int { return cmp.Compare(count(a), count(b)) })
	out := make([]int, len(by))
	for n := range out {
		out[n] = slices.Index(firsts, first(n))
	}
	return out
}
