package types

import (
	"iter"
	"slices"
	"strings"

	"madrigal/api"
	"madrigal/sig"
)

// isName reports whether a module can have a name. It can have what a sort has, and each `_`.
func isName(name string) bool { return isSort(strings.ReplaceAll(name, "_", "x")) }

func isSort(name string) bool { return sig.Check(api.Sig{Sorts: []string{name}}) == api.OK }

// isOp reports whether an operation can be one of a signature with that many sorts.
func isOp(o api.Op, sorts int) bool {
	// There can be too many sorts for sig.Check; only how many arguments there are goes with the name.
	o2 := api.Op{Name: o.Name, Args: make([]int, len(o.Args))}
	return areBelow(o.Args, sorts) && areBelow([]int{o.Res}, sorts) && sig.Check(api.Sig{Sorts: []string{"x"}, Ops: []api.Op{o2}}) == api.OK
}

// module returns what a module amounts to, behind those ahead of it.
func module(done []built, m api.Module) built {
	var uses []flat
	for _, u := range m.Uses {
		need(u >= 0 && u < len(done))
		uses = append(uses, done[u].flat)
	}
	switch m.Kind {
	case api.MoText:
		return text(uses, m)
	case api.MoRename:
		return renamed(uses, m)
	case api.MoActual:
		return actual(uses, m)
	}
	panic(wrong{api.ErrModule})
}

func isEmpty(t api.Type) bool { return len(t.Sig.Sorts)+len(t.Sig.Ops)+len(t.Eqns) == 0 }

// text returns what a module of the kind MoText amounts to.
func text(uses []flat, m api.Module) built {
	need(len(m.Sorts)+len(m.Ops)+len(m.SortTo)+len(m.OpTo) == 0)
	met := map[int]bool{}
	for _, u := range m.Uses {
		need(!met[u])
		met[u] = true
	}
	var out built
	out.flat, out.into = sumOfSigs(uses)
	out.declare(m.Formal.Sig, true)
	front := out.signature()
	out.declare(m.Own.Sig, false)
	out.sumEqns(uses, out.into, newEqns(front, m.Formal.Eqns, true), newEqns(out.signature(), m.Own.Eqns, false))
	return out
}

// declare puts new sorts and operations behind those that there are.
func (f *flat) declare(s api.Sig, formal bool) {
	need(!slices.ContainsFunc(s.Sorts, func(name string) bool { return !isSort(name) }))
	f.sorts, _ = join(itself, never, slices.Values(f.sorts), marked(s.Sorts, formal))
	need(!slices.ContainsFunc(s.Ops, func(o api.Op) bool { return !isOp(o, len(f.sorts)) }))
	f.ops, _ = join(faceOf, never, slices.Values(f.ops), marked(s.Ops, formal))
}

// newEqns are equations that are written in a module, made standard; over s, or they are none.
func newEqns(s api.Sig, l []api.Eqn, formal bool) iter.Seq[part[api.Eqn]] {
	return moved(marked(l, formal), func(e api.Eqn) api.Eqn {
		need(isEqn(s, e))
		return standard(e)
	})
}

// renamed returns what a module of the kind MoRename amounts to.
func renamed(uses []flat, m api.Module) built {
	need(len(uses) == 1 && isEmpty(m.Formal) && isEmpty(m.Own) && len(m.SortTo)+len(m.OpTo) == 0)
	f := uses[0]
	need(len(m.Sorts) == len(f.sorts) && len(m.Ops) == len(f.ops))
	out := built{flat: flat{eqns: f.eqns}, into: []api.Morph{identity(len(f.sorts), len(f.ops))}}
	for i, p := range f.sorts {
		out.sorts = append(out.sorts, part[string]{m.Sorts[i], p.formal})
	}
	for i, p := range f.ops {
		p.it.Name = m.Ops[i]
		out.ops = append(out.ops, p)
	}
	need(sig.Check(out.signature()) == api.OK)
	return out
}

// actual returns what a module of the kind MoActual amounts to.
func actual(uses []flat, m api.Module) built {
	need(len(uses) == 2 && isEmpty(m.Formal) && isEmpty(m.Own) && len(m.Sorts)+len(m.Ops) == 0)
	first, second := uses[0], uses[1]
	need(areBelow(m.SortTo, len(second.sorts)) && areBelow(m.OpTo, len(second.ops)))
	var out built
	var replaced api.Morph
	var at [][]int
	out.sorts, at = join(itself, alike, slices.Values(second.sorts), only(first.sorts, false))
	replaced.Sorts = merged(first.sorts, m.SortTo, at[1])
	ops := moved(only(first.ops, false), opBy(replaced.Sorts))
	out.ops, at = join(faceOf, alike, slices.Values(second.ops), ops)
	replaced.Ops = merged(first.ops, m.OpTo, at[1])
	need(isMorph(first.signature(), out.signature(), replaced))
	out.into = []api.Morph{replaced, identity(len(second.sorts), len(second.ops))}
	rest := flat{eqns: slices.Collect(only(first.eqns, false))}
	out.sumEqns([]flat{second, rest}, []api.Morph{out.into[1], replaced})
	return out
}

// merged returns, for each part, the next of what formal parts become, or the next of what the others become.
func merged[T any](l []part[T], formal, others []int) []int {
	need(len(formal)+len(others) == len(l))
	var out []int
	for _, p := range l {
		from := &others
		if p.formal {
			from = &formal
		}
		out = append(out, (*from)[0])
		*from = (*from)[1:]
	}
	return out
}
