package paths_test

import (
	"slices"

	"madrigal/api"
)

// teller tells by the words of the chapter, and keeps nothing.
type teller struct{ api.Order }

func (o teller) equal(a, b api.Term) bool {
	if a.Kind == api.KVar || b.Kind == api.KVar {
		return a.Kind == b.Kind && a.N == b.N
	}
	if o.Place[a.N] != o.Place[b.N] || len(a.L) != len(b.L) {
		return false
	}
	if o.Status[a.N] == api.ByMulti {
		return o.inSomeOrder(a.L, b.L)
	}
	return slices.EqualFunc(a.L, b.L, o.equal)
}

func without[T any](l []T, i int) []T { return slices.Delete(slices.Clone(l), i, i+1) }

func (o teller) inSomeOrder(a, b []api.Term) bool {
	if len(a) == 0 {
		return true
	}
	for j, y := range b {
		if o.equal(a[0], y) && o.inSomeOrder(a[1:], without(b, j)) {
			return true
		}
	}
	return false
}

func (o teller) greater(a, b api.Term) bool {
	if a.Kind == api.KVar {
		return false
	}
	for _, x := range a.L {
		if o.equal(x, b) || o.greater(x, b) {
			return true
		}
	}
	if b.Kind == api.KVar || o.Place[a.N] < o.Place[b.N] {
		return false
	}
	if o.Place[a.N] == o.Place[b.N] && o.Status[a.N] == api.ByMulti {
		return o.manyAreGreater(a.L, b.L)
	}
	for _, y := range b.L {
		if !o.greater(a, y) {
			return false
		}
	}
	return o.Place[a.N] > o.Place[b.N] || o.listIsGreater(o.from(a), o.from(b))
}

// from returns the arguments, the first one that is compared ahead.
func (o teller) from(t api.Term) []api.Term {
	l := slices.Clone(t.L)
	if o.Status[t.N] == api.ByRight {
		slices.Reverse(l)
	}
	return l
}

func (o teller) listIsGreater(a, b []api.Term) bool {
	switch {
	case len(a) == 0:
		return false
	case len(b) == 0:
		return true
	case o.equal(a[0], b[0]):
		return o.listIsGreater(a[1:], b[1:])
	}
	return o.greater(a[0], b[0])
}

// manyAreGreater leaves out pairs of equal ones in all ways.
func (o teller) manyAreGreater(a, b []api.Term) bool {
	for i, x := range a {
		for j, y := range b {
			if o.equal(x, y) {
				return o.manyAreGreater(without(a, i), without(b, j))
			}
		}
	}
	for _, y := range b {
		if !slices.ContainsFunc(a, func(x api.Term) bool { return o.greater(x, y) }) {
			return false
		}
	}
	return len(a) > 0
}

// accepts tells whether p is a proof that a is greater than b.
func (o teller) accepts(p api.PathProof, a, b api.Term) bool {
	if a.Kind == api.KVar {
		return false
	}
	switch p.Rule {
	case api.PathSub:
		if len(p.To) > 0 || p.At < 0 || p.At >= len(a.L) || len(p.L) > 1 {
			return false
		}
		return len(p.L) == 0 && o.equal(a.L[p.At], b) || len(p.L) == 1 && o.accepts(p.L[0], a.L[p.At], b)
	case api.PathPlace:
		return b.Kind == api.KOp && o.Place[a.N] > o.Place[b.N] && len(p.To) == 0 && p.At == 0 && o.acceptsEach(p.L, a, b)
	case api.PathLex:
		return b.Kind == api.KOp && o.Place[a.N] == o.Place[b.N] && o.Status[a.N] != api.ByMulti && len(p.To) == 0 && o.acceptsLists(p, a, b)
	case api.PathMulti:
		return b.Kind == api.KOp && o.Place[a.N] == o.Place[b.N] && o.Status[a.N] == api.ByMulti && p.At == 0 && o.acceptsPairs(p, a, b)
	}
	return false
}

func (o teller) acceptsEach(l []api.PathProof, a, b api.Term) bool {
	return slices.EqualFunc(l, b.L, func(p api.PathProof, y api.Term) bool { return o.accepts(p, a, y) })
}

func (o teller) acceptsLists(p api.PathProof, a, b api.Term) bool {
	x, y := o.from(a), o.from(b)
	if p.At < 0 || p.At >= len(x) || p.At > len(y) || !slices.EqualFunc(x[:p.At], y[:p.At], o.equal) {
		return false
	}
	if p.At == len(y) {
		return o.acceptsEach(p.L, a, b)
	}
	return len(p.L) > 0 && o.accepts(p.L[0], x[p.At], y[p.At]) && o.acceptsEach(p.L[1:], a, b)
}

func (o teller) acceptsPairs(p api.PathProof, a, b api.Term) bool {
	if len(p.To) != len(b.L) || len(p.L) != len(b.L) {
		return false
	}
	paired := map[int]bool{}
	for j, i := range p.To {
		if i < 0 || i >= len(a.L) || paired[i] {
			return false
		}
		if isNone(p.L[j]) {
			if !o.equal(a.L[i], b.L[j]) || slices.Contains(p.To[:j], i) {
				return false
			}
			paired[i] = true
		} else if !o.accepts(p.L[j], a.L[i], b.L[j]) {
			return false
		}
	}
	return len(paired) < len(a.L)
}

func (o teller) decreases(e api.Eqn) bool {
	for _, c := range e.Conds {
		if !o.greater(e.A, c.A) || !o.greater(e.A, c.B) {
			return false
		}
	}
	return o.greater(e.A, e.B)
}

// blame returns the first equation that does not decrease, -1 if there is none.
func (o teller) blame(t api.Type) int {
	return slices.IndexFunc(t.Eqns, func(e api.Eqn) bool { return !o.decreases(e) })
}

// counted returns the numbers from 0 to end to the power of count, as lists of their digits.
func counted(count, end int) [][]int {
	if count == 0 {
		return [][]int{nil}
	}
	var out [][]int
	for _, l := range counted(count-1, end) {
		for n := range end {
			out = append(out, append(slices.Clone(l), n))
		}
	}
	return out
}

// ordersFor returns the orders for a type with that many operations, of which these occur, in order.
func ordersFor(ops int, occur []int) []api.Order {
	var out []api.Order
	for _, places := range counted(len(occur), max(len(occur), 1)) {
		met := map[int]bool{}
		for _, p := range places {
			met[p] = true
		}
		if len(places) > 0 && slices.Max(places) != len(met)-1 {
			continue
		}
		for _, statuses := range counted(len(occur), 3) {
			o := order(api.ByLeft, slices.Repeat([]int{255}, ops)...)
			status, is := map[int]int{}, true
			for i, n := range occur {
				k := statuses[i] + 1
				is = is && (status[places[i]] == 0 || status[places[i]] == k)
				status[places[i]] = k
				o.Place[n], o.Status[n] = places[i], k
			}
			if is {
				out = append(out, o)
			}
		}
	}
	return out
}

// occurIn returns the operations of equations, increasing.
func occurIn(t api.Type) []int {
	met := map[int]bool{}
	var look func(x api.Term)
	look = func(x api.Term) {
		if x.Kind == api.KOp {
			met[x.N] = true
		}
		for _, y := range x.L {
			look(y)
		}
	}
	for _, e := range t.Eqns {
		look(e.A)
		look(e.B)
		for _, c := range e.Conds {
			look(c.A)
			look(c.B)
		}
	}
	var out []int
	for n := range len(t.Sig.Ops) {
		if met[n] {
			out = append(out, n)
		}
	}
	return out
}
