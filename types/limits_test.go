package types_test

import (
	"slices"
	"strconv"
	"testing"

	"madrigal/api"
	"madrigal/types"
)

func own(name string, t api.Type, uses ...int) api.Module {
	return api.Module{Name: name, Kind: api.MoText, Uses: uses, Own: t}
}

func sigOf(s api.Sig) api.Type { return api.Type{Sig: s} }

// chained returns a type with that many equations over f and g.
func chained(f, g string, n int) api.Type {
	return api.Type{Sig: signature(names("a"), o("c", 0), o(f, 0, 0), o(g, 0, 0)), Eqns: chains(1, 2, 0, n)}
}

// P5.4
func TestSizesOfText(t *testing.T) {
	wrongName := many("s", 65, "f", 1)
	wrongName.Sorts[64] = "a_b"
	wrongOp := many("s", 1, "f", 257)
	wrongOp.Ops[256].Args = []int{1}
	sameOp := many("s", 65, "f", 2)
	sameOp.Ops[1] = sameOp.Ops[0]
	badEqn := []api.Eqn{{A: op(0), B: op(300)}}
	shared := chained("f", "g", 200)
	for _, x := range []struct {
		name string
		l    []api.Module
		want api.Errno
	}{
		{"64 sorts, 256 operations", []api.Module{own("A", sigOf(many("s", 64, "f", 256)))}, api.OK},
		{"65 sorts", []api.Module{own("A", sigOf(many("s", 65, "f", 1)))}, api.ErrLimit},
		{"257 operations", []api.Module{own("A", sigOf(many("s", 1, "f", 257)))}, api.ErrLimit},
		{"very many sorts", []api.Module{own("A", sigOf(many("s", 20000, "f", 20000)))}, api.ErrLimit},
		{"operations of sorts beyond 64", []api.Module{own("A", sigOf(api.Sig{Sorts: many("s", 300, "", 0).Sorts, Ops: []api.Op{o("f", 299, 270)}}))}, api.ErrLimit},
		{"formal and own sorts, 64", []api.Module{{Name: "A", Kind: api.MoText, Formal: sigOf(many("p", 30, "f", 100)), Own: sigOf(many("q", 34, "g", 156))}}, api.OK},
		{"formal and own sorts, 65", []api.Module{{Name: "A", Kind: api.MoText, Formal: sigOf(many("p", 30, "f", 1)), Own: sigOf(many("q", 35, "g", 1))}}, api.ErrLimit},
		{"formal and own operations, 257", []api.Module{{Name: "A", Kind: api.MoText, Formal: sigOf(many("p", 1, "f", 100)), Own: sigOf(many("q", 1, "g", 157))}}, api.ErrLimit},
		{"65 sorts of uses", []api.Module{own("A", sigOf(many("a", 33, "f", 1))), own("B", sigOf(many("b", 32, "f", 1))), own("C", api.Type{}, 0, 1)}, api.ErrLimit},
		{"64 sorts of uses", []api.Module{own("A", sigOf(many("a", 32, "f", 1))), own("B", sigOf(many("b", 32, "f", 1))), own("C", api.Type{}, 0, 1)}, api.OK},
		{"257 operations of uses", []api.Module{own("A", sigOf(many("a", 1, "f", 129))), own("B", sigOf(many("a", 1, "g", 128))), own("C", api.Type{}, 0, 1)}, api.ErrLimit},
		{"uses and own, 65", []api.Module{own("A", sigOf(many("a", 64, "f", 1))), own("B", sigOf(many("b", 1, "", 0)), 0)}, api.ErrLimit},
		{"too many, and a wrong name", []api.Module{own("A", sigOf(wrongName))}, api.ErrModule},
		{"too many, and a wrong operation", []api.Module{own("A", sigOf(wrongOp))}, api.ErrModule},
		{"too many, and an operation twice", []api.Module{own("A", sigOf(sameOp))}, api.ErrModule},
		{"too many, and a field", []api.Module{{Name: "A", Kind: api.MoText, Own: sigOf(many("s", 65, "f", 1)), OpTo: []int{0}}}, api.ErrModule},
		{"too many, and no name", []api.Module{own("", sigOf(many("s", 65, "f", 1)))}, api.ErrModule},
		{"too many of uses, and an own sort of them", []api.Module{own("A", sigOf(many("a", 33, "f", 1))), own("B", sigOf(many("b", 32, "f", 1))), own("C", sigOf(many("b", 1, "", 0)), 0, 1)}, api.ErrModule},
		{"too many sorts, and no equation", []api.Module{own("A", api.Type{Sig: many("s", 65, "f", 1), Eqns: badEqn})}, api.ErrLimit},
		{"too many operations, and no equation", []api.Module{own("A", api.Type{Sig: many("s", 1, "f", 257), Eqns: badEqn})}, api.ErrLimit},
		{"too many sorts, and no formal equation", []api.Module{{Name: "A", Kind: api.MoText, Formal: api.Type{Eqns: badEqn}, Own: sigOf(many("s", 65, "f", 1))}}, api.ErrLimit},
		{"400 equations", []api.Module{own("A", chained("f", "g", 400))}, api.OK},
		{"401 equations", []api.Module{own("A", chained("f", "g", 401))}, api.ErrLimit},
		{"401 equations, and none", []api.Module{own("A", api.Type{Sig: chained("f", "g", 0).Sig, Eqns: append(chains(1, 2, 0, 401), badEqn...)})}, api.ErrModule},
		{"401 equations, and no formal one", []api.Module{{Name: "A", Kind: api.MoText, Formal: api.Type{Eqns: []api.Eqn{{A: op(0), B: op(0)}}}, Own: chained("f", "g", 401)}}, api.ErrModule},
		{"800 equations, each one twice", []api.Module{own("A", api.Type{Sig: chained("f", "g", 0).Sig, Eqns: slices.Concat(chains(1, 2, 0, 400), chains(1, 2, 0, 400))})}, api.OK},
		{"equations of uses, 400", []api.Module{own("A", shared), own("B", chained("g", "h", 200)), own("C", api.Type{}, 0, 1)}, api.OK},
		{"equations of uses, 401", []api.Module{own("A", shared), own("B", chained("g", "h", 201)), own("C", api.Type{}, 0, 1)}, api.ErrLimit},
		{"equations of uses, the same ones", []api.Module{own("A", chained("f", "g", 400)), own("B", chained("f", "g", 300)), own("C", api.Type{}, 0, 1)}, api.OK},
		{"equations of uses, and one more", []api.Module{own("A", chained("f", "g", 400)), own("B", api.Type{Eqns: []api.Eqn{{A: op(0), B: op(1, op(0))}}}, 0)}, api.ErrLimit},
	} {
		if err := types.CheckModules(x.l); err != x.want {
			t.Errorf("%s: %d", x.name, err)
		}
	}
}

// P5.4
func TestFirstModuleThatIsWrong(t *testing.T) {
	large, wrong := own("A", sigOf(many("s", 65, "f", 1))), own("B", sigOf(signature(names("a", "a"))))
	good := own("C", numbers())
	for _, x := range []struct {
		name string
		l    []api.Module
		want api.Errno
	}{
		{"large, wrong", []api.Module{large, wrong}, api.ErrLimit},
		{"wrong, large", []api.Module{wrong, large}, api.ErrModule},
		{"good, large, wrong", []api.Module{good, large, wrong}, api.ErrLimit},
		{"good, large, the name of good", []api.Module{good, large, own("C", numbers())}, api.ErrLimit},
		{"large, by name as good", []api.Module{good, own("C", sigOf(many("s", 65, "f", 1)))}, api.ErrModule},
		{"41 modules, a large one first", append([]api.Module{large}, make([]api.Module, 40)...), api.ErrModule},
	} {
		if err := types.CheckModules(x.l); err != x.want {
			t.Errorf("%s: %d", x.name, err)
		}
		if _, err := types.Flatten(x.l, 0); err != x.want {
			t.Errorf("Flatten, %s: %d", x.name, err)
		}
		if _, err := types.Duties(x.l, 0); err != x.want {
			t.Errorf("Duties, %s: %d", x.name, err)
		}
	}
}

// P5.4
func TestSizesOfActual(t *testing.T) {
	open := api.Module{Name: "Open", Kind: api.MoText, Formal: sigOf(signature(names("x"), o("x0", 0))), Own: sigOf(many("a", 40, "f", 200))}
	for i := range open.Own.Sig.Ops {
		open.Own.Sig.Ops[i].Res = 1
	}
	actual := func(m api.Type, change func(m *api.Module)) []api.Module {
		l := []api.Module{open, own("By", m), {Name: "A", Kind: api.MoActual, Uses: []int{0, 1}, SortTo: []int{0}, OpTo: []int{0}}}
		if change != nil {
			change(&l[2])
		}
		return l
	}
	b := sigOf(many("b", 24, "g", 56))
	for _, x := range []struct {
		name string
		l    []api.Module
		want api.Errno
	}{
		{"64 sorts, 256 operations", actual(b, nil), api.OK},
		{"65 sorts", actual(sigOf(many("b", 25, "g", 1)), nil), api.ErrLimit},
		{"257 operations", actual(sigOf(many("b", 1, "g", 57)), nil), api.ErrLimit},
		{"65 sorts, and no sort", actual(sigOf(many("b", 25, "g", 1)), func(m *api.Module) { m.SortTo[0] = 25 }), api.ErrModule},
		{"65 sorts, and what does not fit", actual(sigOf(many("b", 25, "g", 1)), func(m *api.Module) { m.SortTo[0] = 1 }), api.ErrModule},
		{"257 operations, and no operation", actual(sigOf(many("b", 1, "g", 57)), func(m *api.Module) { m.OpTo[0] = 57 }), api.ErrModule},
		{"65 sorts, and own equations", actual(sigOf(many("b", 25, "g", 1)), func(m *api.Module) { m.Own.Eqns = make([]api.Eqn, 1) }), api.ErrModule},
	} {
		if err := types.CheckModules(x.l); err != x.want {
			t.Errorf("%s: %d", x.name, err)
		}
	}
	for n, want := range map[int]api.Errno{200: api.OK, 201: api.ErrLimit} {
		l := []api.Module{own("A", chained("f", "g", 200)), own("B", chained("g", "h", n)), {Name: "C", Kind: api.MoActual, Uses: []int{0, 1}}}
		if err := types.CheckModules(l); err != want {
			t.Errorf("%d equations: %d", 200+n, err)
		}
	}
}

// P5.4: what is formal in the first one does not count, and what becomes the same counts once.
func TestSizesOfWhatIsReplaced(t *testing.T) {
	formal := chained("f", "g", 300)
	l := []api.Module{
		{Name: "F", Kind: api.MoText, Formal: formal},
		own("B", chained("k", "h", 300)),
		{Name: "A", Kind: api.MoActual, Uses: []int{0, 1}, SortTo: []int{0}, OpTo: []int{0, 1, 2}},
	}
	if err := types.CheckModules(l); err != api.OK {
		t.Errorf("formal equations: %d", err)
	}
	l = []api.Module{
		{Name: "F", Kind: api.MoText, Formal: api.Type{Sig: formal.Sig}, Own: api.Type{Eqns: formal.Eqns}},
		own("B", chained("k", "h", 400)),
		{Name: "A", Kind: api.MoActual, Uses: []int{0, 1}, SortTo: []int{0}, OpTo: []int{0, 1, 2}},
	}
	if f := flat(t, l, 2); len(f.Type.Eqns) != 400 {
		t.Errorf("%d equations", len(f.Type.Eqns))
	}
	l[2].OpTo = []int{0, 2, 1}
	if err := types.CheckModules(l); err != api.ErrLimit {
		t.Errorf("turned: %d", err)
	}
}

// replacedByItself returns modules: one with n formal equations, that many times replaced by itself, and one that uses all of these.
func replacedByItself(n, times int) []api.Module {
	l := []api.Module{{Name: "F", Kind: api.MoText, Formal: chained("f", "g", n)}}
	all := api.Module{Name: "All", Kind: api.MoText}
	for i := range times {
		all.Uses = append(all.Uses, len(l))
		l = append(l, api.Module{Name: "A" + strconv.Itoa(i), Kind: api.MoActual, Uses: []int{0, 0}, SortTo: []int{0}, OpTo: []int{0, 1, 2}})
	}
	return append(l, all)
}

// P5.5
func TestManyDuties(t *testing.T) {
	l := replacedByItself(400, 10)
	d, err := types.Duties(l, 11)
	if err != api.OK || len(d) != 4000 || d[0].Module != 1 || d[3999].Module != 10 {
		t.Errorf("4000 duties: %d %d", len(d), err)
	}
	l = append(l, own("Again", api.Type{}, 11, 10, 3))
	if d, err = types.Duties(l, 12); err != api.OK || len(d) != 4000 {
		t.Errorf("4000 duties again: %d %d", len(d), err)
	}
	few := api.Module{Name: "E", Kind: api.MoText, Formal: chained("f", "g", 1)}
	one := api.Module{Name: "One", Kind: api.MoActual, Uses: []int{13, 13}, SortTo: []int{0}, OpTo: []int{0, 1, 2}}
	l = append(l, few, one, own("More", api.Type{}, 12, 14))
	if d, err = types.Duties(l, 14); err != api.OK || len(d) != 1 {
		t.Errorf("one duty: %d %d", len(d), err)
	}
	if d, err = types.Duties(l, 15); err != api.ErrLimit || d != nil {
		t.Errorf("4001 duties: %d %d", len(d), err)
	}
	if err = types.CheckModules(l); err != api.OK {
		t.Errorf("CheckModules: %d", err)
	}
	for k := range 15 {
		if _, err := types.Duties(l, k); err != api.OK {
			t.Errorf("Duties %d: %d", k, err)
		}
	}
}

// P5.5: a module has fewer duties than one that it uses, where they become the same.
func TestManyDutiesBecomeFew(t *testing.T) {
	l := replacedByItself(399, 11)
	nat := own("Nat", sigOf(signature(names("nat"), o("0", 0), o("s", 0, 0))))
	to := api.Module{Name: "To", Kind: api.MoActual, Uses: []int{12, 13}, SortTo: []int{0}, OpTo: []int{0, 1, 1}}
	l = append(l, nat, to, own("Above", api.Type{}, 14), own("Beside", api.Type{}, 11))
	for k, want := range map[int]api.Errno{0: api.OK, 1: api.OK, 11: api.OK, 12: api.ErrLimit, 13: api.OK, 14: api.ErrLimit, 15: api.ErrLimit, 16: api.OK} {
		if d, err := types.Duties(l, k); err != want || err != api.OK && d != nil {
			t.Errorf("Duties %d: %d %d", k, len(d), err)
		}
	}
	// With few enough it is seen that they become fewer.
	l = replacedByItself(100, 2)
	to.Uses = []int{3, 4}
	l = append(l, nat, to)
	d, err := types.Duties(l, 5)
	if all, _ := types.Duties(l, 3); err != api.OK || len(all) != 200 || len(d) >= 150 {
		t.Errorf("%d duties become %d: %d", len(all), len(d), err)
	}
}
