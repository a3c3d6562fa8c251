package types_test

import (
	"slices"
	"strconv"
	"testing"

	"madrigal/api"
	"madrigal/types"
)

// list returns modules, up to count.
func (m maker) list(count int) []api.Module {
	var l []api.Module
	for tries := 0; len(l) < count && tries < 10*count; tries++ {
		if x := append(slices.Clone(l), m.module(l)); types.CheckModules(x) == api.OK {
			l = x
		}
	}
	return l
}

// module returns what could be a module behind others. Often it is none, since names are few.
func (m maker) module(l []api.Module) api.Module {
	var out api.Module
	switch k := m.Intn(7); {
	case k < 3 || len(l) == 0:
		out = m.text(l)
	case k < 4:
		out = m.rename(l)
	default:
		out = m.actual(l)
	}
	out.Name = "M" + strconv.Itoa(len(l))
	if m.Intn(12) == 0 {
		m.spoil(&out, len(l))
	}
	return out
}

// part returns what a module could write behind a signature.
func (m maker) part(base api.Sig, name string) api.Type {
	var out api.Type
	for range m.Intn(3) {
		x := pick(m, "a", "b", "c", "d", "e")
		if m.Intn(3) > 0 {
			x = name + strconv.Itoa(m.Intn(20))
		}
		out.Sig.Sorts = append(out.Sig.Sorts, x)
	}
	all := api.Sig{Sorts: append(slices.Clone(base.Sorts), out.Sig.Sorts...)}
	out.Sig.Ops = m.ops(4, len(all.Sorts))
	all.Ops = append(slices.Clone(base.Ops), out.Sig.Ops...)
	out.Eqns = m.eqns(all, 3)
	return out
}

func (m maker) text(l []api.Module) api.Module {
	out := api.Module{Kind: api.MoText, Name: "+"}
	for range m.Intn(4) {
		if len(l) > 0 {
			out.Uses = append(out.Uses, m.Intn(len(l)))
		}
	}
	if m.Intn(10) > 0 {
		slices.Sort(out.Uses)
		out.Uses = slices.Compact(out.Uses)
		m.Shuffle(len(out.Uses), func(i, j int) { out.Uses[i], out.Uses[j] = out.Uses[j], out.Uses[i] })
	}
	base, err := types.Flatten(append(slices.Clone(l), out), len(l))
	if err != api.OK {
		return out
	}
	s := base.Type.Sig
	if m.Intn(2) == 0 {
		out.Formal = m.part(s, "p")
		s = api.Sig{Sorts: append(s.Sorts, out.Formal.Sig.Sorts...), Ops: append(s.Ops, out.Formal.Sig.Ops...)}
	}
	if m.Intn(3) > 0 {
		out.Own = m.part(s, "q")
	}
	// An equation of the base, made formal, or no longer formal.
	if len(base.Type.Eqns) > 0 && m.Intn(3) == 0 {
		to := pick(m, &out.Formal, &out.Own)
		to.Eqns = append(to.Eqns, m.mixed(s, pick(m, base.Type.Eqns...)))
	}
	return out
}

func (m maker) rename(l []api.Module) api.Module {
	u := m.Intn(len(l))
	f, _ := types.Flatten(l, u)
	out := api.Module{Kind: api.MoRename, Uses: []int{u}, Sorts: slices.Clone(f.Type.Sig.Sorts)}
	for i := range out.Sorts {
		switch m.Intn(8) {
		case 0:
			out.Sorts[i] = pick(m, "a", "b", "c")
		case 1, 2:
			out.Sorts[i] = "r" + strconv.Itoa(m.Intn(30))
		}
	}
	for _, x := range f.Type.Sig.Ops {
		name := x.Name
		switch m.Intn(8) {
		case 0:
			name = pick(m, "f", "_+_", "g")
		case 1, 2:
			name = "k" + strconv.Itoa(m.Intn(30))
		}
		out.Ops = append(out.Ops, name)
	}
	return out
}

func (m maker) actual(l []api.Module) api.Module {
	out := api.Module{Kind: api.MoActual, Uses: []int{m.Intn(len(l)), m.Intn(len(l))}}
	f, _ := types.Flatten(l, out.Uses[0])
	for tries := 0; tries < 5 && !slices.Contains(f.Sorts, true) && !slices.Contains(f.Ops, true); tries++ {
		out.Uses[0] = m.Intn(len(l))
		f, _ = types.Flatten(l, out.Uses[0])
	}
	g, _ := types.Flatten(l, out.Uses[1])
	to := map[string]string{}
	for i, is := range f.Sorts {
		x := f.Type.Sig.Sorts[i]
		to[x] = x
		if is {
			if len(g.Sorts) == 0 {
				return out
			}
			out.SortTo = append(out.SortTo, m.Intn(len(g.Sorts)))
			to[x] = g.Type.Sig.Sorts[out.SortTo[len(out.SortTo)-1]]
		}
	}
	for i, is := range f.Ops {
		if !is {
			continue
		}
		_, args, res := apart(faceOf(f.Type.Sig, f.Type.Sig.Ops[i]))
		for j := range args {
			args[j] = to[args[j]]
		}
		var can []int
		for j, y := range faces(g.Type.Sig) {
			if name, _, _ := apart(y); y == faceWith(name, args, to[res]) {
				can = append(can, j)
			}
		}
		if len(can) == 0 || m.Intn(20) == 0 {
			can = []int{m.Intn(len(g.Ops) + 1)}
		}
		out.OpTo = append(out.OpTo, pick(m, can...))
	}
	return out
}

// spoil changes something, most often so that there is no module.
func (m maker) spoil(x *api.Module, ahead int) {
	switch m.Intn(9) {
	case 0:
		x.Name = pick(m, "M0", "", "a b", "_", "__x", "p,q")
	case 1:
		x.Uses = append(x.Uses, pick(m, 0, ahead, -1, ahead-1))
	case 2:
		x.Sorts = append(x.Sorts, "z")
	case 3:
		x.Ops = append(x.Ops, "z")
	case 4:
		x.SortTo = append(x.SortTo, 0)
	case 5:
		x.OpTo = append(x.OpTo, 0)
	case 6:
		x.Kind = m.Intn(5)
	case 7:
		x.Own.Sig.Sorts = append(x.Own.Sig.Sorts, "own")
	case 8:
		x.Formal.Eqns = append(x.Formal.Eqns, api.Eqn{A: op(0), B: op(0)})
	}
}

// P5.4, P5.5
func TestModulesAtRandom(t *testing.T) {
	r := newMaker(6)
	kinds, none, duties, open := map[int]int{}, 0, 0, 0
	for range 120 {
		var l []api.Module
		for range 22 {
			x := append(slices.Clone(l), r.module(l))
			done, is := tellAll(x)
			want := api.ErrModule
			if is {
				want = api.OK
			}
			if err := types.CheckModules(x); err != want {
				t.Fatalf("CheckModules of %v: %d, not %d", x, err, want)
			}
			if !is {
				none++
				continue
			}
			l = x
			k := len(l) - 1
			kinds[l[k].Kind]++
			agree(t, l, done, k)
			duties += len(toldDuties(l, done, k))
			if _, err := types.Closed(l, k); err == api.ErrOpen {
				open++
			}
		}
	}
	if kinds[1] < 500 || kinds[2] < 100 || kinds[3] < 300 || none < 500 || duties < 150 || open < 400 {
		t.Errorf("kinds %v, %d none, %d duties, %d open", kinds, none, duties, open)
	}
}
