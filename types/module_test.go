package types_test

import (
	"slices"
	"strconv"
	"strings"
	"testing"

	"madrigal/api"
	"madrigal/types"
)

// boxes are the modules of the chapter's examples.
func boxes() []api.Module {
	nat := api.Type{Sig: signature(names("nat"), o("0", 0), o("s", 0, 0))}
	elem := api.Type{Sig: signature(names("elem"), o("e", 0), o("h", 0, 0)), Eqns: []api.Eqn{{A: op(1, op(0)), B: op(0)}}}
	box := api.Type{Sig: signature(names("box"), o("in", 0, 1))}
	return []api.Module{
		{Name: "Nat", Kind: api.MoText, Own: nat},
		{Name: "Box", Kind: api.MoText, Formal: elem, Own: box},
		{Name: "NatBox", Kind: api.MoActual, Uses: []int{1, 0}, SortTo: []int{0}, OpTo: []int{0, 1}},
		{Name: "NatCrate", Kind: api.MoRename, Uses: []int{2}, Sorts: names("nat", "crate"), Ops: names("0", "s", "in")},
	}
}

func flat(t *testing.T, l []api.Module, k int) api.Flat {
	t.Helper()
	f, err := types.Flatten(l, k)
	if err != api.OK {
		t.Fatalf("Flatten %d: %d", k, err)
	}
	return f
}

// P5.4: the chapter's examples.
func TestExamples(t *testing.T) {
	l := boxes()
	f := flat(t, l, 1)
	want := api.Flat{
		Type:  api.Type{Sig: signature(names("elem", "box"), o("e", 0), o("h", 0, 0), o("in", 0, 1)), Eqns: []api.Eqn{{A: op(1, op(0)), B: op(0)}}},
		Sorts: []bool{true, false}, Ops: []bool{true, true, false}, Eq: []bool{true},
	}
	if !equal(f, want) {
		t.Errorf("Flatten 1: %v", f)
	}
	f = flat(t, l, 2)
	natBox := api.Flat{Type: api.Type{Sig: signature(names("nat", "box"), o("0", 0), o("s", 0, 0), o("in", 0, 1))}, Sorts: make([]bool, 2), Ops: make([]bool, 3)}
	if !equal(f, natBox) {
		t.Errorf("Flatten 2: %v", f)
	}
	natBox.Type.Sig.Sorts[1] = "crate"
	if f = flat(t, l, 3); !equal(f, natBox) {
		t.Errorf("Flatten 3: %v", f)
	}
	m, err := types.Into(l, 2, 0)
	if err != api.OK || !slices.Equal(m.Sorts, []int{0, 1}) || !slices.Equal(m.Ops, []int{0, 1, 2}) {
		t.Errorf("Into 2 0: %v %d", m, err)
	}
	if m, err = types.Into(l, 2, 1); err != api.OK || !slices.Equal(m.Sorts, []int{0}) || !slices.Equal(m.Ops, []int{0, 1}) {
		t.Errorf("Into 2 1: %v %d", m, err)
	}
	if m, err = types.Into(l, 3, 0); err != api.OK || !slices.Equal(m.Sorts, []int{0, 1}) || !slices.Equal(m.Ops, []int{0, 1, 2}) {
		t.Errorf("Into 3 0: %v %d", m, err)
	}
	l[2].OpTo = []int{1, 0}
	if err := types.CheckModules(l); err != api.ErrModule {
		t.Errorf("s has an argument, e has none: %d", err)
	}
	l = append(boxes(), api.Module{Name: "N", Kind: api.MoText, Uses: []int{0, 1}, Own: api.Type{Sig: signature(names("nat"))}})
	if err := types.CheckModules(l); err != api.ErrModule {
		t.Errorf("nat again: %d", err)
	}
}

// P5.5: the chapter's examples.
func TestExamplesOfDuties(t *testing.T) {
	l := boxes()
	for k, want := range [][]api.Duty{nil, nil, {{Module: 2, Eqn: api.Eqn{A: op(1, op(0)), B: op(0)}}}, {{Module: 2, Eqn: api.Eqn{A: op(1, op(0)), B: op(0)}}}} {
		if d, err := types.Duties(l, k); err != api.OK || !equal(d, want) {
			t.Errorf("Duties %d: %v %d", k, d, err)
		}
	}
	if x, err := types.Closed(l, 2); err != api.OK || !types.Same(x, flat(t, l, 2).Type) {
		t.Errorf("Closed 2: %v %d", x, err)
	}
	if x, err := types.Closed(l, 1); err != api.ErrOpen || !isZero(x) {
		t.Errorf("Closed 1: %v %d", x, err)
	}
}

// changes are what makes the examples no modules.
func changes() map[string]func(l []api.Module) {
	return map[string]func(l []api.Module){
		"no name":                          func(l []api.Module) { l[0].Name = "" },
		"a name with a blank":              func(l []api.Module) { l[3].Name = "a b" },
		"a name with a comma":              func(l []api.Module) { l[3].Name = "a,b" },
		"a name with a bracket":            func(l []api.Module) { l[3].Name = "a(b" },
		"a name of 33 bytes":               func(l []api.Module) { l[3].Name = strings.Repeat("x", 33) },
		"a name of 33 bytes, _":            func(l []api.Module) { l[3].Name = strings.Repeat("_", 33) },
		"a name that is not ASCII":         func(l []api.Module) { l[3].Name = "é" },
		"a name twice":                     func(l []api.Module) { l[3].Name = "Nat" },
		"kind 0":                           func(l []api.Module) { l[0].Kind = 0 },
		"kind 4":                           func(l []api.Module) { l[0].Kind = 4 },
		"kind -1":                          func(l []api.Module) { l[0].Kind = -1 },
		"a use of itself":                  func(l []api.Module) { l[1].Uses = []int{1} },
		"a use of a later one":             func(l []api.Module) { l[1].Uses = []int{2} },
		"a use below 0":                    func(l []api.Module) { l[1].Uses = []int{-1} },
		"a use of none":                    func(l []api.Module) { l[3].Uses = []int{4} },
		"a use twice":                      func(l []api.Module) { l[1].Uses = []int{0, 0} },
		"text with Sorts":                  func(l []api.Module) { l[0].Sorts = names("a") },
		"text with Ops":                    func(l []api.Module) { l[0].Ops = names("a") },
		"text with SortTo":                 func(l []api.Module) { l[0].SortTo = []int{0} },
		"text with OpTo":                   func(l []api.Module) { l[0].OpTo = []int{0} },
		"rename without uses":              func(l []api.Module) { l[3].Uses = nil },
		"rename with two uses":             func(l []api.Module) { l[3].Uses = []int{2, 1} },
		"rename with SortTo":               func(l []api.Module) { l[3].SortTo = []int{0} },
		"rename with OpTo":                 func(l []api.Module) { l[3].OpTo = []int{0} },
		"rename with formal sorts":         func(l []api.Module) { l[3].Formal.Sig.Sorts = names("x") },
		"rename with own operations":       func(l []api.Module) { l[3].Own.Sig.Ops = []api.Op{o("x", 0)} },
		"rename with own equations":        func(l []api.Module) { l[3].Own.Eqns = []api.Eqn{{A: op(0), B: op(0)}} },
		"rename with too few sorts":        func(l []api.Module) { l[3].Sorts = names("nat") },
		"rename with too many sorts":       func(l []api.Module) { l[3].Sorts = names("nat", "crate", "x") },
		"rename with too few operations":   func(l []api.Module) { l[3].Ops = names("0", "s") },
		"rename with too many operations":  func(l []api.Module) { l[3].Ops = names("0", "s", "in", "x") },
		"rename to one sort":               func(l []api.Module) { l[3].Sorts = names("nat", "nat") },
		"rename to no sort's name":         func(l []api.Module) { l[3].Sorts = names("nat", "a_b") },
		"rename to no name":                func(l []api.Module) { l[3].Ops = names("0", "s", "") },
		"rename to a name that fits not":   func(l []api.Module) { l[3].Ops = names("0", "_s_", "in") },
		"rename to underlines":             func(l []api.Module) { l[3].Ops = names("0", "_", "in") },
		"actual without uses":              func(l []api.Module) { l[2].Uses = nil },
		"actual with one use":              func(l []api.Module) { l[2].Uses = []int{1} },
		"actual with three uses":           func(l []api.Module) { l[2].Uses = []int{1, 0, 0} },
		"actual with Sorts":                func(l []api.Module) { l[2].Sorts = names("a") },
		"actual with Ops":                  func(l []api.Module) { l[2].Ops = names("a") },
		"actual with formal operations":    func(l []api.Module) { l[2].Formal.Sig.Ops = []api.Op{o("x", 0)} },
		"actual with formal equations":     func(l []api.Module) { l[2].Formal.Eqns = []api.Eqn{{A: op(0), B: op(0)}} },
		"actual with own sorts":            func(l []api.Module) { l[2].Own.Sig.Sorts = names("x") },
		"actual with too few sorts":        func(l []api.Module) { l[2].SortTo = nil },
		"actual with too many sorts":       func(l []api.Module) { l[2].SortTo = []int{0, 0} },
		"actual with too few operations":   func(l []api.Module) { l[2].OpTo = []int{0} },
		"actual with too many operations":  func(l []api.Module) { l[2].OpTo = []int{0, 1, 1} },
		"actual with no sort":              func(l []api.Module) { l[2].SortTo = []int{1} },
		"actual with a sort below 0":       func(l []api.Module) { l[2].SortTo = []int{-1} },
		"actual with no operation":         func(l []api.Module) { l[2].OpTo = []int{0, 2} },
		"actual with an operation below 0": func(l []api.Module) { l[2].OpTo = []int{-1, 1} },
		"actual turned round":              func(l []api.Module) { l[2].Uses = []int{0, 1} },
	}
}

// P5.4
func TestWrongModules(t *testing.T) {
	if err := types.CheckModules(boxes()); err != api.OK {
		t.Fatalf("the examples: %d", err)
	}
	for name, change := range changes() {
		l := boxes()
		change(l)
		if err := types.CheckModules(l); err != api.ErrModule {
			t.Errorf("%s: %d", name, err)
		}
		// The error of the list is told ahead of that of the index.
		if f, err := types.Flatten(l, -1); err != api.ErrModule || !isZero(f) {
			t.Errorf("Flatten, %s: %v %d", name, f, err)
		}
		if m, err := types.Into(l, 0, 9); err != api.ErrModule || !isZero(m) {
			t.Errorf("Into, %s: %v %d", name, m, err)
		}
		if d, err := types.Duties(l, 9); err != api.ErrModule || d != nil {
			t.Errorf("Duties, %s: %v %d", name, d, err)
		}
		if x, err := types.Closed(l, 9); err != api.ErrModule || !isZero(x) {
			t.Errorf("Closed, %s: %v %d", name, x, err)
		}
	}
}

// P5.4, P5.5
func TestIndices(t *testing.T) {
	l := boxes()
	for _, k := range []int{-1, 4, 1 << 62, -1 << 63} {
		if f, err := types.Flatten(l, k); err != api.ErrArg || !isZero(f) {
			t.Errorf("Flatten %d: %v %d", k, f, err)
		}
		if m, err := types.Into(l, k, 0); err != api.ErrArg || !isZero(m) {
			t.Errorf("Into %d: %v %d", k, m, err)
		}
		if d, err := types.Duties(l, k); err != api.ErrArg || d != nil {
			t.Errorf("Duties %d: %v %d", k, d, err)
		}
		if x, err := types.Closed(l, k); err != api.ErrArg || !isZero(x) {
			t.Errorf("Closed %d: %v %d", k, x, err)
		}
	}
	for _, x := range [][2]int{{0, 0}, {1, 0}, {2, 2}, {2, -1}, {3, 1}, {3, -1 << 63}} {
		if m, err := types.Into(l, x[0], x[1]); err != api.ErrArg || !isZero(m) {
			t.Errorf("Into %v: %v %d", x, m, err)
		}
	}
	if err := types.CheckModules(nil); err != api.OK {
		t.Errorf("no modules: %d", err)
	}
	if _, err := types.Flatten(nil, 0); err != api.ErrArg {
		t.Errorf("Flatten of no modules: %d", err)
	}
}

// P5.4
func TestNamesOfModules(t *testing.T) {
	for _, name := range []string{"_", "__", "a_b", "+", "#", strings.Repeat("_", 32), strings.Repeat("x", 32), "Nat2", "~", "!"} {
		l := boxes()
		l[1].Name = name
		if err := types.CheckModules(l); err != api.OK {
			t.Errorf("%q: %d", name, err)
		}
	}
	l := boxes()
	l[0].Name, l[1].Name = "a_b", "axb"
	if err := types.CheckModules(l); err != api.OK {
		t.Errorf("a_b and axb: %d", err)
	}
	for b := range 256 {
		l[0].Name = string([]byte{'a', byte(b)})
		want := api.OK
		if b < 33 || b > 126 || b == '(' || b == ')' || b == ',' {
			want = api.ErrModule
		}
		if err := types.CheckModules(l); err != want {
			t.Errorf("byte %d: %d", b, err)
		}
	}
}

// P5.4
func TestTextWrites(t *testing.T) {
	base := boxes()[1]
	one := []api.Eqn{{A: op(3), B: op(3)}}
	for _, x := range []struct {
		name        string
		formal, own api.Type
		want        api.Errno
	}{
		{"nothing", api.Type{}, api.Type{}, api.OK},
		{"a formal sort", api.Type{Sig: signature(names("x"))}, api.Type{}, api.OK},
		{"a formal sort of the base", api.Type{Sig: signature(names("elem"))}, api.Type{}, api.ErrModule},
		{"a formal sort of the base, not formal", api.Type{Sig: signature(names("box"))}, api.Type{}, api.ErrModule},
		{"an own sort of the base", api.Type{}, api.Type{Sig: signature(names("box"))}, api.ErrModule},
		{"a sort twice", api.Type{}, api.Type{Sig: signature(names("x", "y", "x"))}, api.ErrModule},
		{"a formal sort twice", api.Type{Sig: signature(names("x", "x"))}, api.Type{}, api.ErrModule},
		{"a sort formal and own", api.Type{Sig: signature(names("x"))}, api.Type{Sig: signature(names("x"))}, api.ErrModule},
		{"a sort with _", api.Type{}, api.Type{Sig: signature(names("x_"))}, api.ErrModule},
		{"a formal sort without a name", api.Type{Sig: signature(names(""))}, api.Type{}, api.ErrModule},
		{"a name of other sorts", api.Type{Sig: signature(nil, o("e", 1))}, api.Type{Sig: signature(nil, o("in", 1, 0), o("in", 0, 0))}, api.OK},
		{"a formal operation of the base", api.Type{Sig: signature(nil, o("e", 0))}, api.Type{}, api.ErrModule},
		{"an own operation of the base", api.Type{}, api.Type{Sig: signature(nil, o("in", 0, 1))}, api.ErrModule},
		{"an operation twice", api.Type{}, api.Type{Sig: signature(nil, o("c", 0), o("c", 0))}, api.ErrModule},
		{"an operation formal and own", api.Type{Sig: signature(nil, o("c", 0))}, api.Type{Sig: signature(nil, o("c", 0))}, api.ErrModule},
		{"a formal operation of a formal sort", api.Type{Sig: signature(names("x"), o("c", 2))}, api.Type{}, api.OK},
		{"a formal operation of an own sort", api.Type{Sig: signature(nil, o("c", 2))}, api.Type{Sig: signature(names("x"))}, api.ErrModule},
		{"a formal operation with an own sort", api.Type{Sig: signature(nil, o("c", 2, 0))}, api.Type{Sig: signature(names("x"))}, api.ErrModule},
		{"an own operation of a formal sort", api.Type{Sig: signature(names("x"))}, api.Type{Sig: signature(names("y"), o("c", 3, 2))}, api.OK},
		{"an own operation of no sort", api.Type{}, api.Type{Sig: signature(names("y"), o("c", 3))}, api.ErrModule},
		{"an own operation below 0", api.Type{}, api.Type{Sig: signature(names("y"), o("c", -1))}, api.ErrModule},
		{"an argument below 0", api.Type{}, api.Type{Sig: signature(names("y"), o("c", -1, 0))}, api.ErrModule},
		{"a name of no such arguments", api.Type{}, api.Type{Sig: signature(nil, o("_c", 0))}, api.ErrModule},
		{"a name with all arguments", api.Type{}, api.Type{Sig: signature(nil, o("_c", 0, 0))}, api.OK},
		{"8 arguments", api.Type{}, api.Type{Sig: signature(nil, o("c", 0, 0, 0, 0, 0, 0, 0, 0, 0))}, api.OK},
		{"9 arguments", api.Type{}, api.Type{Sig: signature(nil, o("c", 0, 0, 0, 0, 0, 0, 0, 0, 0, 0))}, api.ErrModule},
		{"an operation without a name", api.Type{Sig: signature(nil, o("", 0))}, api.Type{}, api.ErrModule},
		{"a formal equation", api.Type{Sig: signature(nil, o("c", 0)), Eqns: one}, api.Type{}, api.OK},
		{"a formal equation of what is own", api.Type{Eqns: one}, api.Type{Sig: signature(nil, o("c", 0))}, api.ErrModule},
		{"a formal equation with an own sort", api.Type{Eqns: []api.Eqn{{Vars: []int{2}, A: op(0), B: op(0)}}}, api.Type{Sig: signature(names("x"))}, api.ErrModule},
		{"an own equation with a variable of it", api.Type{}, api.Type{Sig: signature(names("x")), Eqns: []api.Eqn{{Vars: []int{2}, A: op(0), B: op(0)}}}, api.OK},
		{"an own equation", api.Type{}, api.Type{Sig: signature(nil, o("c", 0)), Eqns: one}, api.OK},
		{"an equation that is none", api.Type{}, api.Type{Eqns: one}, api.ErrModule},
	} {
		l := []api.Module{base, {Name: "T", Kind: api.MoText, Uses: []int{0}, Formal: x.formal, Own: x.own}}
		if err := types.CheckModules(l); err != x.want {
			t.Errorf("%s: %d", x.name, err)
		}
	}
}

// P5.4
func TestMarksOfEquations(t *testing.T) {
	eqn := func(a, b int) []api.Eqn { return []api.Eqn{{A: op(a), B: op(b)}} }
	three := signature(names("a"), o("c", 0), o("d", 0), o("e", 0))
	text := func(name string, uses []int, formal, own []api.Eqn) api.Module {
		return api.Module{Name: name, Kind: api.MoText, Uses: uses, Formal: api.Type{Eqns: formal}, Own: api.Type{Eqns: own}}
	}
	l := []api.Module{
		{Name: "C", Kind: api.MoText, Own: api.Type{Sig: three}},
		text("F", []int{0}, append(eqn(0, 1), eqn(1, 2)...), nil),
		text("O", []int{0}, nil, append(eqn(2, 0), eqn(0, 1)...)),
		text("F2", []int{0}, eqn(0, 1), nil),
		text("FO", []int{1, 2}, nil, nil),
		text("OF", []int{2, 1}, nil, nil),
		text("FF", []int{1, 3}, nil, nil),
		text("again", []int{1}, eqn(0, 1), eqn(1, 2)),
		text("open", []int{2}, append(eqn(0, 1), eqn(2, 0)...), nil),
		text("both", []int{0}, eqn(0, 1), eqn(0, 1)),
		text("F.and.O", []int{1, 3, 2}, nil, nil),
		{Name: "by.itself", Kind: api.MoActual, Uses: []int{1, 2}},
		{Name: "by.formal", Kind: api.MoActual, Uses: []int{2, 1}},
	}
	for k, want := range []struct {
		eqns [][2]int
		eq   []bool
	}{
		{nil, nil},
		{[][2]int{{0, 1}, {1, 2}}, []bool{true, true}},
		{[][2]int{{2, 0}, {0, 1}}, []bool{false, false}},
		{[][2]int{{0, 1}}, []bool{true}},
		{[][2]int{{0, 1}, {1, 2}, {2, 0}}, []bool{false, true, false}},
		{[][2]int{{2, 0}, {0, 1}, {1, 2}}, []bool{false, false, true}},
		{[][2]int{{0, 1}, {1, 2}}, []bool{true, true}},
		{[][2]int{{0, 1}, {1, 2}}, []bool{true, false}},
		{[][2]int{{2, 0}, {0, 1}}, []bool{false, false}},
		{[][2]int{{0, 1}}, []bool{false}},
		{[][2]int{{0, 1}, {1, 2}, {2, 0}}, []bool{false, true, false}},
		{[][2]int{{2, 0}, {0, 1}}, []bool{false, false}},
		{[][2]int{{0, 1}, {1, 2}, {2, 0}}, []bool{false, true, false}},
	} {
		f := flat(t, l, k)
		var got [][2]int
		for _, e := range f.Type.Eqns {
			got = append(got, [2]int{e.A.N, e.B.N})
		}
		if !slices.Equal(got, want.eqns) || !slices.Equal(f.Eq, want.eq) {
			t.Errorf("%s: %v %v", l[k].Name, got, f.Eq)
		}
		if _, err := types.Closed(l, k); (err == api.ErrOpen) != slices.Contains(want.eq, true) {
			t.Errorf("Closed of %s: %d", l[k].Name, err)
		}
	}
}

// P5.4
func TestNoSum(t *testing.T) {
	open := func(name string, s api.Sig) api.Module {
		return api.Module{Name: name, Kind: api.MoText, Formal: api.Type{Sig: s}}
	}
	own := func(name string, s api.Sig) api.Module {
		return api.Module{Name: name, Kind: api.MoText, Own: api.Type{Sig: s}}
	}
	two := func(l ...api.Module) []api.Module { return l }
	a, ac := signature(names("a")), signature(names("a"), o("c", 0))
	for _, x := range []struct {
		name string
		l    []api.Module
		want api.Errno
	}{
		{"both formal", two(open("A", ac), open("B", ac)), api.OK},
		{"none formal", two(own("A", ac), own("B", ac)), api.OK},
		{"a sort formal in the first", two(open("A", a), own("B", ac)), api.ErrModule},
		{"a sort formal in the second", two(own("A", ac), open("B", a)), api.ErrModule},
		{"an operation of one alone", two(own("A", a), own("B", ac)), api.OK},
	} {
		l := append(x.l, api.Module{Name: "AB", Kind: api.MoText, Uses: []int{0, 1}})
		if err := types.CheckModules(l); err != x.want {
			t.Errorf("%s: %d", x.name, err)
		}
	}
	// The sort is the same one; the operation is formal in one alone.
	withC := func(name string, formal bool) api.Module {
		m := api.Module{Name: name, Kind: api.MoText, Uses: []int{0}}
		if c := signature(nil, o("c", 0)); formal {
			m.Formal.Sig = c
		} else {
			m.Own.Sig = c
		}
		return m
	}
	for _, x := range [][2]bool{{true, true}, {true, false}, {false, true}, {false, false}} {
		l := two(own("A", a), withC("B", x[0]), withC("C", x[1]), api.Module{Name: "BC", Kind: api.MoText, Uses: []int{1, 2}})
		want := api.OK
		if x[0] != x[1] {
			want = api.ErrModule
		}
		if err := types.CheckModules(l); err != want {
			t.Errorf("an operation, formal %v: %d", x, err)
		}
		// Nothing formal is replaced: the first one has c for itself.
		l[3] = api.Module{Name: "BC", Kind: api.MoActual, Uses: []int{1, 2}}
		if x[0] {
			l[3].OpTo = []int{0}
		}
		if want = api.OK; !x[0] && x[1] {
			want = api.ErrModule
		}
		if err := types.CheckModules(l); err != want {
			t.Errorf("actual, an operation, formal %v: %d", x, err)
		}
	}
}

// P5.4
func TestActualFits(t *testing.T) {
	// The first one has a formal sort x, an own sort b, and formal operations over both.
	b := api.Module{Name: "B", Kind: api.MoText, Own: api.Type{Sig: signature(names("b"))}}
	first := api.Module{Name: "First", Kind: api.MoText, Uses: []int{0}, Formal: api.Type{Sig: signature(names("x", "y"), o("f", 1, 0, 2), o("g", 0, 0))}, Own: api.Type{Sig: signature(names("z"), o("h", 1, 3), o("h", 2, 3))}}
	second := api.Module{Name: "Second", Kind: api.MoText, Own: api.Type{Sig: signature(names("n", "b", "k"), o("p", 0, 1, 2), o("q", 1, 1), o("r", 0, 0), o("t", 0, 1, 0), o("u", 0, 2, 0))}}
	for _, x := range []struct {
		name      string
		sorts, to []int
		want      api.Errno
	}{
		{"all fit", []int{0, 2}, []int{0, 1}, api.OK},
		{"both sorts become one", []int{0, 0}, []int{3, 1}, api.OK},
		{"a sort that is not formal becomes b alone", []int{0, 0}, []int{4, 1}, api.ErrModule},
		{"another result", []int{0, 1}, []int{0, 1}, api.ErrModule},
		{"another argument", []int{1, 2}, []int{0, 1}, api.ErrModule},
		{"another operation of b", []int{0, 2}, []int{0, 2}, api.ErrModule},
		{"turned", []int{0, 2}, []int{1, 0}, api.ErrModule},
		{"sorts turned", []int{2, 0}, []int{0, 1}, api.ErrModule},
	} {
		l := []api.Module{b, first, second, {Name: "A", Kind: api.MoActual, Uses: []int{1, 2}, SortTo: x.sorts, OpTo: x.to}}
		if err := types.CheckModules(l); err != x.want {
			t.Errorf("%s: %d", x.name, err)
		}
	}
	l := []api.Module{b, first, second, {Name: "A", Kind: api.MoActual, Uses: []int{1, 2}, SortTo: []int{0, 0}, OpTo: []int{3, 1}}}
	f := flat(t, l, 3)
	// Both operations h become one.
	if !slices.Equal(f.Type.Sig.Sorts, names("n", "b", "k", "z")) || len(f.Type.Sig.Ops) != 6 || faces(f.Type.Sig)[5] != "h:n>z" {
		t.Errorf("%v", f)
	}
	m, err := types.Into(l, 3, 0)
	if err != api.OK || !slices.Equal(m.Sorts, []int{1, 0, 0, 3}) || !slices.Equal(m.Ops, []int{3, 1, 5, 5}) {
		t.Errorf("%v %d", m, err)
	}
	// A sort that is not formal, and that the second one does not have.
	l[2].Own.Sig.Sorts[1] = "other"
	if err := types.CheckModules(l); err != api.ErrModule {
		t.Errorf("no b: %d", err)
	}
}

// P5.4: what is replaced by a sort, or an operation, of the first one itself.
func TestActualByOwnParts(t *testing.T) {
	first := api.Module{Name: "First", Kind: api.MoText, Formal: api.Type{Sig: signature(names("x"))}, Own: api.Type{Sig: signature(names("z"), o("h", 0, 1))}}
	n := api.Module{Name: "N", Kind: api.MoText, Own: api.Type{Sig: signature(names("n"))}}
	l := []api.Module{first, n, {Name: "A", Kind: api.MoActual, Uses: []int{0, 1}, SortTo: []int{1}}}
	if err := types.CheckModules(l); err != api.ErrModule {
		t.Errorf("an own sort: %d", err)
	}
	l[0] = api.Module{Name: "First", Kind: api.MoText, Formal: api.Type{Sig: signature(names("x"), o("c", 0))}, Own: api.Type{Sig: signature(nil, o("d", 0))}}
	l[2].SortTo, l[2].OpTo = []int{0}, []int{0}
	if err := types.CheckModules(l); err != api.ErrModule {
		t.Errorf("an own operation: %d", err)
	}
}

// P5.4
func TestEmptyModules(t *testing.T) {
	var l []api.Module
	for i := range 40 {
		m := api.Module{Name: "M" + strconv.Itoa(i), Kind: api.MoText}
		switch {
		case i > 0 && i%3 == 1:
			m.Kind, m.Uses = api.MoRename, []int{i - 1}
		case i > 0 && i%3 == 2:
			m.Kind, m.Uses = api.MoActual, []int{i - 1, i - 1}
		case i > 0:
			m.Uses = []int{i - 1, i - 3}
		}
		l = append(l, m)
	}
	if err := types.CheckModules(l); err != api.OK {
		t.Errorf("40 modules: %d", err)
	}
	for k := range l {
		if f := flat(t, l, k); !isZero(f) {
			t.Errorf("Flatten %d: %v", k, f)
		}
	}
	l = append(l, api.Module{Name: "M40", Kind: api.MoText})
	if err := types.CheckModules(l); err != api.ErrModule {
		t.Errorf("41 modules: %d", err)
	}
}
