package paths

import (
	"slices"

	"madrigal/api"
	"madrigal/sig"
)

// maxSorted is how many terms are sorted at most.
const maxSorted = 1000

// maxKnown is about how many pairs of parts are kept from term to term.
const maxKnown = 1 << 20

// Sort returns terms such that none stands behind one that is greater.
func Sort(s api.Sig, o api.Order, l []api.Term) ([]api.Term, api.Errno) {
	if err := check(s, o, l...); err != api.OK {
		return nil, err
	}
	if len(l) > maxSorted {
		return nil, api.ErrLimit
	}
	c, parts := compare(o, l...)
	w := sorter{comparison: c, l: parts, waiting: make([][]int, len(l))}
	var out []api.Term
	for _, n := range w.sorted() {
		t, _ := sig.At(l[n], nil) // a copy
		out = append(out, t)
	}
	return out, api.OK
}

// sorter sorts terms. Of those that are left each one stands among the least ones, or waits for one that is left and less.
type sorter struct {
	*comparison
	l       []*part
	least   []int   // increasing; none is greater than another one
	waiting [][]int // for each one, those that wait for it
}

// sorted returns the numbers of the terms in order.
func (w *sorter) sorted() []int {
	all := make([]int, len(w.l))
	for i := range all {
		all[i] = i
	}
	w.add(all)
	var out []int
	for len(w.least) > 0 {
		n := w.least[0]
		w.least = w.least[1:]
		out = append(out, n)
		w.add(w.waiting[n])
	}
	return out
}

// add adds terms to the least ones, or lets them wait; the last one first, so that terms that are sorted wait in a row, each one for the next one.
func (w *sorter) add(l []int) {
	for _, n := range slices.Backward(l) {
		w.addOne(n)
	}
}

func (w *sorter) addOne(n int) {
	if len(w.known) > maxKnown {
		clear(w.known)
	}
	for _, k := range w.least {
		if w.greater(w.l[n], w.l[k]) {
			w.waiting[k] = append(w.waiting[k], n)
			return
		}
	}
	var least []int
	for _, k := range w.least {
		if w.greater(w.l[k], w.l[n]) {
			w.waiting[n] = append(w.waiting[n], k)
		} else {
			least = append(least, k)
		}
	}
	at, _ := slices.BinarySearch(least, n)
	w.least = slices.Insert(least, at, n)
}
