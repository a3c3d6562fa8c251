package paths

import (
	"madrigal/api"
	"madrigal/types"
)

// Check returns ErrOrder unless all equations of a type decrease by an order.
func Check(t api.Type, o api.Order) api.Errno {
	_, is, err := Blame(t, o)
	if is {
		return api.ErrOrder
	}
	return err
}

// Blame returns the first equation that does not decrease, and whether there is one.
func Blame(t api.Type, o api.Order) (int, bool, api.Errno) {
	if err := types.Check(t); err != api.OK {
		return 0, false, err
	}
	if !isOrder(t.Sig, o) {
		return 0, false, api.ErrOrder
	}
	k, is := blamed(t, o)
	return k, is, api.OK
}

// blamed returns what Blame does, of a type and an order of it.
func blamed(t api.Type, o api.Order) (int, bool) {
	for k, e := range t.Eqns {
		if !decreases(e, o) {
			return k, true
		}
	}
	return 0, false
}

func decreases(e api.Eqn, o api.Order) bool {
	c, l := compare(o, append([]api.Term{e.A}, lesser(e)...)...)
	return c.above(l[0], l[1:]...)
}

// lesser returns the terms of an equation than which the left side has to be greater.
func lesser(e api.Eqn) []api.Term {
	out := []api.Term{e.B}
	for _, c := range e.Conds {
		out = append(out, c.A, c.B)
	}
	return out
}

// maxFound is how many operations occur at most in a type all orders of which are looked at.
const maxFound = 4

// Find returns the first order by which all equations decrease, and whether there is one.
func Find(t api.Type) (api.Order, bool, api.Errno) {
	if err := types.Check(t); err != api.OK {
		return api.Order{}, false, err
	}
	ops := occurring(t.Sig, t.Eqns...)
	if len(ops) > maxFound {
		return api.Order{}, false, api.ErrLimit
	}
	o, is := found(t, ops)
	return o, is, api.OK
}

// found returns the first order for a type with these operations by which all equations decrease, and whether there is one.
func found(t api.Type, ops []int) (api.Order, bool) {
	last := -1 // most orders fail with the equation with which the one ahead of them failed
	for o := range orders(t.Sig, ops) {
		if last >= 0 && !decreases(t.Eqns[last], o) {
			continue
		}
		k, is := blamed(t, o)
		if !is {
			return o, true
		}
		last = k
	}
	return api.Order{}, false
}

// Guess returns some order by which all equations decrease, and whether one was found.
func Guess(t api.Type) (api.Order, bool, api.Errno) {
	if err := types.Check(t); err != api.OK {
		return api.Order{}, false, err
	}
	if ops := occurring(t.Sig, t.Eqns...); len(ops) <= maxFound {
		o, is := found(t, ops)
		return o, is, api.OK
	}
	o, is := likely(t)
	return o, is, api.OK
}
