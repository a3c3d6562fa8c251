package types_test

import (
	"slices"
	"strconv"
	"testing"

	"madrigal/api"
	"madrigal/types"
)

func into(t *testing.T, l []api.Module, k, use int) api.Morph {
	t.Helper()
	m, err := types.Into(l, k, use)
	if err != api.OK {
		t.Fatalf("Into %d, %d in %v: %d", k, use, l, err)
	}
	return m
}

func dutiesOf(t *testing.T, l []api.Module, k int) []api.Duty {
	t.Helper()
	d, err := types.Duties(l, k)
	if err != api.OK {
		t.Fatalf("Duties of %d in %v: %d", k, l, err)
	}
	return d
}

// hasEqn reports whether an equation is one of a list.
func hasEqn(l []api.Eqn, e api.Eqn) bool {
	return slices.ContainsFunc(l, func(x api.Eqn) bool { return equal(x, e) })
}

// P5.6
func TestNothingIsLost(t *testing.T) {
	r := newMaker(7)
	owed := 0
	for range 150 {
		l := r.list(8)
		for k, m := range l {
			f := flat(t, l, k)
			var duties []api.Eqn
			for _, d := range dutiesOf(t, l, k) {
				duties = append(duties, d.Eqn)
			}
			sorts, ops, eqns := make([]bool, len(f.Sorts)), make([]bool, len(f.Ops)), []api.Eqn{}
			for i, u := range m.Uses {
				used, to := flat(t, l, u), into(t, l, k, i)
				if err := types.CheckMorph(used.Type.Sig, f.Type.Sig, to); err != api.OK {
					t.Fatalf("no morphism: %v of %d in %v", to, k, l)
				}
				for _, n := range to.Sorts {
					sorts[n] = true
				}
				for _, n := range to.Ops {
					ops[n] = true
				}
				for j, e := range used.Type.Eqns {
					x, _ := types.ImageEqn(used.Type.Sig, f.Type.Sig, to, e)
					x, _ = types.Standard(f.Type.Sig, x)
					if m.Kind == api.MoActual && i == 0 && used.Eq[j] {
						if owed++; !hasEqn(duties, x) {
							t.Fatalf("%v of %d is lost in %v", e, k, l)
						}
						continue
					}
					if !hasEqn(f.Type.Eqns, x) {
						t.Fatalf("%v of %d is lost in %v", e, k, l)
					}
					eqns = append(eqns, x)
				}
			}
			comeFrom(t, m, f, sorts, ops, eqns)
		}
	}
	if owed < 50 {
		t.Errorf("%d duties", owed)
	}
}

// comeFrom checks that all parts of a flat that come from no used module are written in the module.
func comeFrom(t *testing.T, m api.Module, f api.Flat, sorts, ops []bool, eqns []api.Eqn) {
	t.Helper()
	s := f.Type.Sig
	for i, used := range sorts {
		if !used && !slices.Contains(m.Formal.Sig.Sorts, s.Sorts[i]) && !slices.Contains(m.Own.Sig.Sorts, s.Sorts[i]) {
			t.Fatalf("the sort %s comes from nowhere: %v", s.Sorts[i], m)
		}
	}
	for i, used := range ops {
		same := func(x api.Op) bool { return equal(x, s.Ops[i]) }
		if !used && !slices.ContainsFunc(m.Formal.Sig.Ops, same) && !slices.ContainsFunc(m.Own.Sig.Ops, same) {
			t.Fatalf("the operation %v comes from nowhere: %v", s.Ops[i], m)
		}
	}
	for _, e := range slices.Concat(m.Formal.Eqns, m.Own.Eqns) {
		x, _ := types.Standard(s, e)
		eqns = append(eqns, x)
	}
	for _, e := range f.Type.Eqns {
		if !hasEqn(eqns, e) {
			t.Fatalf("the equation %v comes from nowhere: %v", e, m)
		}
	}
}

// P5.10
func TestRenamedBack(t *testing.T) {
	r := newMaker(8)
	for range 60 {
		l := r.list(6)
		for k := range l {
			f := flat(t, l, k)
			there := api.Module{Name: "there", Kind: api.MoRename, Uses: []int{k}}
			back := api.Module{Name: "back", Kind: api.MoRename, Uses: []int{len(l)}, Sorts: f.Type.Sig.Sorts}
			for i := range f.Sorts {
				there.Sorts = append(there.Sorts, "new"+strconv.Itoa(i))
			}
			for i, x := range f.Type.Sig.Ops {
				there.Ops = append(there.Ops, "new"+strconv.Itoa(i))
				back.Ops = append(back.Ops, x.Name)
			}
			all := append(slices.Clone(l), there, back)
			if got := flat(t, all, len(l)+1); !equal(got, f) {
				t.Fatalf("%v, renamed back: %v", f, got)
			}
			got := flat(t, all, len(l))
			if !equal(got.Type.Eqns, f.Type.Eqns) || !slices.Equal(got.Sorts, f.Sorts) || !slices.Equal(got.Type.Sig.Sorts, there.Sorts) {
				t.Fatalf("%v, renamed: %v", f, got)
			}
			if d := dutiesOf(t, all, len(l)+1); !equal(d, dutiesOf(t, l, k)) {
				t.Fatalf("duties %v", d)
			}
		}
	}
}

// marked returns the parts of a flat by names, with marks.
func marked(f api.Flat) []string {
	var out []string
	add := func(l []string, marks []bool) {
		for i, x := range l {
			out = append(out, x+" "+strconv.FormatBool(marks[i]))
		}
	}
	add(f.Type.Sig.Sorts, f.Sorts)
	add(faces(f.Type.Sig), f.Ops)
	add(eqnTexts(f.Type), f.Eq)
	return sorted(out)
}

// P5.11
func TestOrderOfUses(t *testing.T) {
	r := newMaker(9)
	done := 0
	for range 300 {
		l := r.list(6)
		uses := r.Perm(len(l))[:r.Intn(len(l)+1)]
		one := api.Module{Name: "one", Kind: api.MoText, Uses: uses}
		two := api.Module{Name: "two", Kind: api.MoText, Uses: slices.Clone(uses)}
		r.Shuffle(len(uses), func(i, j int) { two.Uses[i], two.Uses[j] = two.Uses[j], two.Uses[i] })
		all := append(slices.Clone(l), one)
		err := types.CheckModules(all)
		if other := types.CheckModules(append(slices.Clone(l), two)); err != other {
			t.Fatalf("%v: %d, but %v: %d", one, err, two, other)
		}
		if err != api.OK {
			continue
		}
		done++
		all = append(all, two)
		if a, b := marked(flat(t, all, len(l))), marked(flat(t, all, len(l)+1)); !slices.Equal(a, b) {
			t.Fatalf("%v has %v, but %v has %v", one, a, two, b)
		}
	}
	if done < 100 {
		t.Errorf("%d lists", done)
	}
}

// P5.12
func TestOnce(t *testing.T) {
	r := newMaker(10)
	for range 60 {
		l := r.list(6)
		for k := range l {
			n := len(l)
			f := flat(t, l, k)
			names := []string{}
			for _, x := range f.Type.Sig.Ops {
				names = append(names, x.Name)
			}
			all := append(slices.Clone(l),
				api.Module{Name: "one", Kind: api.MoText, Uses: []int{k}},
				api.Module{Name: "two", Kind: api.MoRename, Uses: []int{k}, Sorts: f.Type.Sig.Sorts, Ops: names},
				api.Module{Name: "both", Kind: api.MoText, Uses: []int{n, n + 1}},
				api.Module{Name: "three", Kind: api.MoText, Uses: []int{n + 1, k, n + 2}})
			for i := range 4 {
				if got := flat(t, all, n+i); !equal(got, f) {
					t.Fatalf("%v, but %s: %v", f, all[n+i].Name, got)
				}
				if d := dutiesOf(t, all, n+i); !equal(d, dutiesOf(t, l, k)) {
					t.Fatalf("duties of %s: %v", all[n+i].Name, d)
				}
			}
		}
	}
}

// formals returns the indices of what is marked.
func formals(l []bool) []int {
	var out []int
	for i, is := range l {
		if is {
			out = append(out, i)
		}
	}
	return out
}

// P5.13
func TestReplacedByItself(t *testing.T) {
	r := newMaker(11)
	seen := 0
	for range 100 {
		l := r.list(6)
		for k := range l {
			f := flat(t, l, k)
			n := len(l)
			all := append(slices.Clone(l), api.Module{Name: "itself", Kind: api.MoActual, Uses: []int{k, k}, SortTo: formals(f.Sorts), OpTo: formals(f.Ops)})
			if got := flat(t, all, n); !slices.Equal(marked(got), marked(f)) {
				t.Fatalf("%v, replaced by itself: %v", f, got)
			}
			seen += len(formals(f.Eq))
			d := dutiesOf(t, all, n)
			for _, i := range formals(f.Eq) {
				want := api.Duty{Module: n, Eqn: f.Type.Eqns[i]}
				if !slices.ContainsFunc(d, func(x api.Duty) bool { return equal(x, want) }) {
					t.Fatalf("%v is no duty: %v", want, d)
				}
			}
			if len(d) != len(formals(f.Eq))+len(dutiesOf(t, l, k)) {
				t.Fatalf("duties %v", d)
			}
		}
	}
	if seen < 50 {
		t.Errorf("%d formal equations", seen)
	}
}
