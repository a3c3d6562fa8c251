package types

import (
	"iter"

	"madrigal/api"
)

// duty is what no two duties in a module have in common.
type duty struct {
	module int
	eqn    string
}

func dutyOf(d api.Duty) duty { return duty{d.Module, written(d.Eqn)} }

// dutyBy returns what translates duties.
func dutyBy(m api.Morph) func(api.Duty) api.Duty {
	image := eqnBy(m)
	return func(d api.Duty) api.Duty { return api.Duty{Module: d.Module, Eqn: image(d.Eqn)} }
}

// dutiesIn returns the duties in a module of a list.
func dutiesIn(l []api.Module, done []built, k int) []api.Duty {
	all := make([][]api.Duty, k+1)
	for i := range usedBy(l, k) {
		var lists []iter.Seq[part[api.Duty]]
		for j, u := range l[i].Uses {
			lists = append(lists, moved(marked(all[u], false), dutyBy(done[i].into[j])))
		}
		if l[i].Kind == api.MoActual {
			first := done[l[i].Uses[0]]
			lists = append(lists, moved(ownDuties(i, first.eqns), dutyBy(done[i].into[0])))
		}
		found, _ := join(dutyOf, both, lists...)
		all[i], _ = parted(found)
		limit(len(all[i]) <= api.MaxDuties)
	}
	return all[k]
}

// ownDuties are the formal equations of the first module of MoActual, in its own words.
func ownDuties(module int, eqns []part[api.Eqn]) iter.Seq[part[api.Duty]] {
	return func(yield func(part[api.Duty]) bool) {
		for e := range only(eqns, true) {
			if !yield(part[api.Duty]{it: api.Duty{Module: module, Eqn: e.it}}) {
				return
			}
		}
	}
}

// usedBy are a module and those that it uses, directly or not, each one behind those that it uses.
func usedBy(l []api.Module, k int) iter.Seq[int] {
	used := make([]bool, k+1)
	used[k] = true
	for i := k; i >= 0; i-- {
		for _, u := range l[i].Uses {
			used[u] = used[u] || used[i]
		}
	}
	return func(yield func(int) bool) {
		for i, is := range used {
			if is && !yield(i) {
				return
			}
		}
	}
}
