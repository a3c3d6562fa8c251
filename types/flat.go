package types

import (
	"iter"
	"slices"

	"madrigal/api"
)

// part is a sort, an operation or an equation of what a module amounts to.
type part[T any] struct {
	it     T
	formal bool
}

// flat is what a module amounts to. It can be too large, as long as it is not finished.
type flat struct {
	sorts []part[string]
	ops   []part[api.Op]
	eqns  []part[api.Eqn]
}

// marked are parts that are all formal, or none of them.
func marked[T any](l []T, formal bool) iter.Seq[part[T]] {
	return func(yield func(part[T]) bool) {
		for _, x := range l {
			if !yield(part[T]{x, formal}) {
				return
			}
		}
	}
}

// only are the parts that are formal, or those that are not.
func only[T any](l []part[T], formal bool) iter.Seq[part[T]] {
	return func(yield func(part[T]) bool) {
		for _, p := range l {
			if p.formal == formal && !yield(p) {
				return
			}
		}
	}
}

// moved are parts that are translated.
func moved[T any](l iter.Seq[part[T]], by func(T) T) iter.Seq[part[T]] {
	return func(yield func(part[T]) bool) {
		for p := range l {
			if !yield(part[T]{by(p.it), p.formal}) {
				return
			}
		}
	}
}

// join puts lists behind each other. Parts with the same key are one, which stands where the first of them does; agree says whether it is formal. join also returns where the parts of each list are.
func join[T any, K comparable](key func(T) K, agree func(a, b bool) bool, lists ...iter.Seq[part[T]]) ([]part[T], [][]int) {
	var all []part[T]
	found := map[K]int{}
	at := make([][]int, len(lists))
	for i, l := range lists {
		for p := range l {
			k := key(p.it)
			n, met := found[k]
			if met {
				all[n].formal = agree(all[n].formal, p.formal)
			} else {
				n = len(all)
				found[k] = n
				all = append(all, p)
			}
			at[i] = append(at[i], n)
		}
	}
	return all, at
}

// alike says of what there is no sum unless it is formal in both, or in none.
func alike(a, b bool) bool {
	need(a == b)
	return a
}

// both says that what is not formal in one of two is not formal.
func both(a, b bool) bool { return a && b }

// never says that nothing new can be there already.
func never(a, b bool) bool {
	need(false)
	return false
}

func itself(name string) string { return name }

// face is what no two operations of a signature have in common.
type face struct {
	name      string
	args      [api.MaxArgs]int
	count, to int
}

func faceOf(o api.Op) face {
	f := face{name: o.Name, count: len(o.Args), to: o.Res}
	copy(f.args[:], o.Args)
	return f
}

// sumOfSigs returns the sorts and operations of the sum of flats, and the morphisms into it.
func sumOfSigs(l []flat) (flat, []api.Morph) {
	var out flat
	var at [][]int
	var sorts []iter.Seq[part[string]]
	for _, f := range l {
		sorts = append(sorts, slices.Values(f.sorts))
	}
	out.sorts, at = join(itself, alike, sorts...)
	into := make([]api.Morph, len(l))
	var ops []iter.Seq[part[api.Op]]
	for i, f := range l {
		into[i].Sorts = at[i]
		ops = append(ops, moved(slices.Values(f.ops), opBy(at[i])))
	}
	out.ops, at = join(faceOf, alike, ops...)
	for i := range into {
		into[i].Ops = at[i]
	}
	return out, into
}

// sumEqns gives a flat with all its sorts and operations the equations of flats, and more.
func (f *flat) sumEqns(l []flat, into []api.Morph, more ...iter.Seq[part[api.Eqn]]) {
	limit(len(f.sorts) <= api.MaxSorts && len(f.ops) <= api.MaxOps)
	var eqns []iter.Seq[part[api.Eqn]]
	for i, x := range l {
		eqns = append(eqns, moved(slices.Values(x.eqns), eqnBy(into[i])))
	}
	f.eqns, _ = join(written, both, append(eqns, more...)...)
	limit(len(f.eqns) <= api.MaxEqns)
}

// signature returns the sorts and operations, which keep their memory.
func (f flat) signature() api.Sig {
	sorts, _ := parted(f.sorts)
	ops, _ := parted(f.ops)
	return api.Sig{Sorts: sorts, Ops: ops}
}

// exported returns the flat as it is told, of which no operation has the memory of what was written.
func (f flat) exported() api.Flat {
	var out api.Flat
	f.ops = slices.Collect(moved(slices.Values(f.ops), func(o api.Op) api.Op {
		return api.Op{Name: o.Name, Args: slices.Clone(o.Args), Res: o.Res}
	}))
	out.Type.Sig.Sorts, out.Sorts = parted(f.sorts)
	out.Type.Sig.Ops, out.Ops = parted(f.ops)
	out.Type.Eqns, out.Eq = parted(f.eqns)
	return out
}

// parted returns what parts are, and which of them are formal.
func parted[T any](l []part[T]) (its []T, formal []bool) {
	for _, p := range l {
		its = append(its, p.it)
		formal = append(formal, p.formal)
	}
	return its, formal
}
