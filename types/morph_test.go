package types_test

import (
	"slices"
	"testing"

	"madrigal/api"
	"madrigal/sig"
	"madrigal/types"
)

// small and large are signatures, and turn is a morphism from the first one to the second one.
func small() api.Sig {
	return signature(names("a", "b"), o("c", 0), o("d", 0), o("f", 0, 1), o("_+_", 0, 1, 0))
}

func large() api.Sig {
	return signature(names("x", "y", "z"), o("p", 2, 1), o("k", 2), o("_*_", 2, 1, 2))
}

func turn() api.Morph { return api.Morph{Sorts: []int{2, 1}, Ops: []int{1, 1, 0, 2}} }

// P5.2
func TestCheckMorph(t *testing.T) {
	for _, x := range []struct {
		name   string
		change func(from, to *api.Sig, m *api.Morph)
		want   api.Errno
	}{
		{"nothing", func(from, to *api.Sig, m *api.Morph) {}, api.OK},
		{"other names", func(from, to *api.Sig, m *api.Morph) { to.Sorts[0], to.Ops[0].Name = "a", "c" }, api.OK},
		{"empty lists", func(from, to *api.Sig, m *api.Morph) {
			*from, *m = api.Sig{}, api.Morph{Sorts: []int{}, Ops: []int{}}
		}, api.OK},
		{"nothing into something", func(from, to *api.Sig, m *api.Morph) { *from, *m = api.Sig{}, api.Morph{} }, api.OK},
		{"nothing into nothing", func(from, to *api.Sig, m *api.Morph) { *from, *to, *m = api.Sig{}, api.Sig{}, api.Morph{} }, api.OK},
		{"something into nothing", func(from, to *api.Sig, m *api.Morph) { *to = api.Sig{} }, api.ErrMorph},
		{"a sort less", func(from, to *api.Sig, m *api.Morph) { m.Sorts = m.Sorts[:1] }, api.ErrMorph},
		{"a sort more", func(from, to *api.Sig, m *api.Morph) { m.Sorts = append(m.Sorts, 0) }, api.ErrMorph},
		{"no sorts", func(from, to *api.Sig, m *api.Morph) { m.Sorts = nil }, api.ErrMorph},
		{"an operation less", func(from, to *api.Sig, m *api.Morph) { m.Ops = m.Ops[:3] }, api.ErrMorph},
		{"an operation more", func(from, to *api.Sig, m *api.Morph) { m.Ops = append(m.Ops, 0) }, api.ErrMorph},
		{"a sort that there is not", func(from, to *api.Sig, m *api.Morph) { m.Sorts[0] = 3 }, api.ErrMorph},
		{"a sort of no operation that there is not", func(from, to *api.Sig, m *api.Morph) {
			from.Sorts, m.Sorts = append(from.Sorts, "c"), append(m.Sorts, 3)
		}, api.ErrMorph},
		{"a sort of no operation below 0", func(from, to *api.Sig, m *api.Morph) {
			from.Sorts, m.Sorts = append(from.Sorts, "c"), append(m.Sorts, -1)
		}, api.ErrMorph},
		{"a sort below 0", func(from, to *api.Sig, m *api.Morph) { m.Sorts[1] = -1 }, api.ErrMorph},
		{"an operation that there is not", func(from, to *api.Sig, m *api.Morph) { m.Ops[3] = 3 }, api.ErrMorph},
		{"an operation below 0", func(from, to *api.Sig, m *api.Morph) { m.Ops[0] = -1 }, api.ErrMorph},
		{"another result", func(from, to *api.Sig, m *api.Morph) { to.Ops[1].Res = 0 }, api.ErrMorph},
		{"another argument", func(from, to *api.Sig, m *api.Morph) { to.Ops[2].Args[1] = 0 }, api.ErrMorph},
		{"more arguments", func(from, to *api.Sig, m *api.Morph) { to.Ops[0].Args = []int{2, 2} }, api.ErrMorph},
		{"less arguments", func(from, to *api.Sig, m *api.Morph) { to.Ops[0].Args = nil }, api.ErrMorph},
		{"sorts turned", func(from, to *api.Sig, m *api.Morph) { m.Sorts = []int{1, 2} }, api.ErrMorph},
		{"sorts made one", func(from, to *api.Sig, m *api.Morph) { m.Sorts = []int{2, 2} }, api.ErrMorph},
		{"the first is none", func(from, to *api.Sig, m *api.Morph) { from.Sorts[1] = "a" }, api.ErrType},
		{"the second is none", func(from, to *api.Sig, m *api.Morph) { to.Ops[0].Res = 9 }, api.ErrType},
		{"the second is none, and no morphism", func(from, to *api.Sig, m *api.Morph) { to.Ops[0].Res, m.Sorts = 9, nil }, api.ErrType},
	} {
		from, to, m := small(), large(), turn()
		x.change(&from, &to, &m)
		if err := types.CheckMorph(from, to, m); err != x.want {
			t.Errorf("CheckMorph, %s: %d", x.name, err)
		}
		if x.want == api.OK {
			continue
		}
		if got, err := types.Image(from, to, m, api.Term{}); err != x.want || !isZero(got) {
			t.Errorf("Image, %s: %v %d", x.name, got, err)
		}
		if got, err := types.ImageEqn(from, to, m, api.Eqn{}); err != x.want || !isZero(got) {
			t.Errorf("ImageEqn, %s: %v %d", x.name, got, err)
		}
		if got, err := types.Compose(from, to, to, m, api.Morph{}); err != x.want || !isZero(got) {
			t.Errorf("Compose, %s: %v %d", x.name, got, err)
		}
	}
}

// P5.2
func TestIdentity(t *testing.T) {
	got, err := types.Identity(small())
	if err != api.OK || !slices.Equal(got.Sorts, []int{0, 1}) || !slices.Equal(got.Ops, []int{0, 1, 2, 3}) {
		t.Errorf("%v %d", got, err)
	}
	if got, err = types.Identity(api.Sig{}); err != api.OK || !isZero(got) {
		t.Errorf("of nothing: %v %d", got, err)
	}
	got, err = types.Identity(many("s", 64, "o", 256))
	if err != api.OK || len(got.Sorts) != 64 || len(got.Ops) != 256 || got.Sorts[63] != 63 || got.Ops[255] != 255 {
		t.Errorf("of much: %v %d", got, err)
	}
	for _, s := range []api.Sig{many("s", 65, "o", 0), many("s", 1, "o", 257), signature(names("_")), signature(nil, o("c", 0))} {
		if got, err := types.Identity(s); err != api.ErrType || !isZero(got) {
			t.Errorf("of no signature: %v %d", got, err)
		}
	}
}

// P5.2
func TestCompose(t *testing.T) {
	a, b, c := small(), large(), signature(names("one", "two"), o("q", 0, 1), o("l", 0), o("m", 0, 1, 0), o("n", 1))
	n := api.Morph{Sorts: []int{1, 1, 0}, Ops: []int{0, 1, 2}}
	got, err := types.Compose(a, b, c, turn(), n)
	if err != api.OK || !slices.Equal(got.Sorts, []int{0, 1}) || !slices.Equal(got.Ops, []int{1, 1, 0, 2}) {
		t.Errorf("%v %d", got, err)
	}
	wrong := signature(names("a", "a"))
	for _, x := range []struct {
		name    string
		a, b, c api.Sig
		m, n    api.Morph
		want    api.Errno
	}{
		{"the first is none", wrong, b, c, turn(), n, api.ErrType},
		{"the second is none", a, wrong, c, turn(), n, api.ErrType},
		{"the third is none, ahead of morphisms", a, b, wrong, api.Morph{}, n, api.ErrType},
		{"the first morphism is none", a, b, c, api.Morph{}, n, api.ErrMorph},
		{"the second morphism is none", a, b, c, turn(), turn(), api.ErrMorph},
		{"turned round", a, b, c, n, turn(), api.ErrMorph},
	} {
		if got, err := types.Compose(x.a, x.b, x.c, x.m, x.n); err != x.want || !isZero(got) {
			t.Errorf("%s: %v %d", x.name, got, err)
		}
	}
}

// P5.2
func TestImage(t *testing.T) {
	nine := op(3)
	for range 9 {
		nine.L = append(nine.L, v(0))
	}
	from := small()
	from.Ops = append(from.Ops, o("g", 0, 0), o("h", 0, 0, 0))
	to, m := large(), turn()
	to.Ops = append(to.Ops, o("g", 2, 2), o("h", 2, 2, 2))
	m.Ops = append(m.Ops, 3, 4)
	for _, x := range []struct {
		name string
		t    api.Term
		want api.Term
		err  api.Errno
	}{
		{"a constant", op(1), op(1), api.OK},
		{"within", op(3, op(0), op(2, op(1))), op(2, op(1), op(0, op(1))), api.OK},
		{"variables", op(3, v(5), v(3)), op(2, v(5), v(3)), api.OK},
		{"a variable alone", v(0), v(0), api.OK},
		{"variable 63 alone", v(63), v(63), api.OK},
		{"variable 64 alone", v(64), api.Term{}, api.ErrTerm},
		{"variable 63", op(2, v(63)), op(0, v(63)), api.OK},
		{"variable 64", op(2, v(64)), api.Term{}, api.ErrTerm},
		{"variable 4000", op(2, v(4000)), api.Term{}, api.ErrTerm},
		{"a variable below 0 alone", v(-1), api.Term{}, api.ErrTerm},
		{"a variable below 0", op(2, v(-1)), api.Term{}, api.ErrTerm},
		{"a variable with elements", api.Term{Kind: api.KVar, L: []api.Term{op(0)}}, api.Term{}, api.ErrTerm},
		{"a variable of one sort", op(5, v(1), op(4, v(1))), op(4, v(1), op(3, v(1))), api.OK},
		{"a variable of two sorts", op(3, v(0), v(0)), api.Term{}, api.ErrTerm},
		{"wrong sorts", op(3, op(0), op(0)), api.Term{}, api.ErrTerm},
		{"an operation that there is not", op(6), api.Term{}, api.ErrTerm},
		{"an operation that there is not, within", op(2, op(6)), api.Term{}, api.ErrTerm},
		{"an operation below 0", op(-1), api.Term{}, api.ErrTerm},
		{"too few arguments", op(2), api.Term{}, api.ErrTerm},
		{"too many arguments", op(0, op(0)), api.Term{}, api.ErrTerm},
		{"nine arguments", nine, api.Term{}, api.ErrTerm},
		{"no term", api.Term{}, api.Term{}, api.ErrTerm},
		{"no kind", api.Term{Kind: 3}, api.Term{}, api.ErrTerm},
		{"200 deep", high(4, 200, op(0)), high(3, 200, op(1)), api.OK},
		{"201 deep", high(4, 201, op(0)), api.Term{}, api.ErrTerm},
		{"too many nodes", doubled(5, 10), api.Term{}, api.ErrTerm},
		{"far too many nodes", doubled(5, 5000), api.Term{}, api.ErrTerm},
	} {
		got, err := types.Image(from, to, m, x.t)
		if err != x.err || !equal(got, x.want) {
			t.Errorf("%s: %v %d", x.name, got, err)
		}
	}
	// A variable alone is a term also where there are no sorts, since it is named as one.
	if got, err := types.Image(api.Sig{}, large(), api.Morph{}, v(2)); err != api.OK || !equal(got, v(2)) {
		t.Errorf("a variable without sorts: %v %d", got, err)
	}
}

// P5.2
func TestImageEqn(t *testing.T) {
	e := api.Eqn{Vars: []int{1, 0, 0}, Conds: []api.Pair{{A: op(2, v(1)), B: v(0)}}, A: op(3, v(1), v(0)), B: op(1)}
	want := api.Eqn{Vars: []int{1, 2, 2}, Conds: []api.Pair{{A: op(0, v(1)), B: v(0)}}, A: op(2, v(1), v(0)), B: op(1)}
	// It is not made standard.
	got, err := types.ImageEqn(small(), large(), turn(), e)
	if err != api.OK || !equal(got, want) {
		t.Errorf("%v %d", got, err)
	}
	e.B = op(2, op(1))
	if got, err = types.ImageEqn(small(), large(), turn(), e); err != api.ErrType || !isZero(got) {
		t.Errorf("no equation: %v %d", got, err)
	}
}

// sortOf returns the sort of a term with variables of these sorts.
func sortOf(s api.Sig, vars []int, x api.Term) int {
	k, err := sig.Sort(s, vars, x)
	if err != api.OK {
		return -1
	}
	return k
}

// images returns the images of terms.
func images(t *testing.T, from, to api.Sig, m api.Morph, l ...api.Term) []api.Term {
	t.Helper()
	var out []api.Term
	for _, x := range l {
		y, err := types.Image(from, to, m, x)
		if err != api.OK {
			t.Fatalf("Image of %v from %v to %v by %v: %d", x, from, to, m, err)
		}
		out = append(out, y)
	}
	return out
}

func sortsBy(m api.Morph, l []int) []int {
	var out []int
	for _, k := range l {
		out = append(out, m.Sorts[k])
	}
	return out
}

// P5.7
func TestImages(t *testing.T) {
	r := newMaker(3)
	for done := 0; done < 2000; {
		a := r.sig()
		b, m := r.wider(a)
		c, n := r.wider(b)
		if len(a.Sorts) == 0 || sig.Check(b) != api.OK || sig.Check(c) != api.OK {
			continue
		}
		if types.CheckMorph(a, b, m) != api.OK || types.CheckMorph(b, c, n) != api.OK {
			t.Fatalf("no morphisms: %v %v", m, n)
		}
		var vars []int
		x, is := r.term(a, r.Intn(len(a.Sorts)), 4, &vars, true)
		if !is {
			continue
		}
		done++
		y := images(t, a, b, m, x)[0]
		if k := sortOf(a, vars, x); k < 0 || sortOf(b, sortsBy(m, vars), y) != m.Sorts[k] {
			t.Fatalf("the image of %v has the sort %d", x, sortOf(b, sortsBy(m, vars), y))
		}
		both, err := types.Compose(a, b, c, m, n)
		if err != api.OK || types.CheckMorph(a, c, both) != api.OK || !sig.Same(images(t, a, c, both, x)[0], images(t, b, c, n, y)[0]) {
			t.Fatalf("Compose of %v and %v: %v %d", m, n, both, err)
		}
		if !sig.Same(images(t, a, a, identity(a), x)[0], x) {
			t.Fatalf("Identity changes %v", x)
		}
		var in []api.Term
		var inner []int
		for _, k := range vars {
			u, is := r.term(a, k, 2, &inner, true)
			if !is {
				u = v(len(inner))
				inner = append(inner, k)
			}
			in = append(in, u)
		}
		put, _ := sig.Subst(x, in)
		want, _ := sig.Subst(y, images(t, a, b, m, in...))
		if got := images(t, a, b, m, put)[0]; !sig.Same(got, want) {
			t.Fatalf("the image of %v with %v is %v", x, in, got)
		}
	}
}

// P5.7
func TestImagesOfEquations(t *testing.T) {
	r := newMaker(4)
	for done := 0; done < 1000; {
		a := r.sig()
		b, m := r.wider(a)
		c, n := r.wider(b)
		e, is := r.eqn(a)
		if !is || sig.Check(c) != api.OK {
			continue
		}
		done++
		x, err := types.ImageEqn(a, b, m, e)
		if err != api.OK || types.Check(api.Type{Sig: b, Eqns: []api.Eqn{x}}) != api.OK || !slices.Equal(x.Vars, sortsBy(m, e.Vars)) {
			t.Fatalf("%v becomes %v: %d", e, x, err)
		}
		l := images(t, a, b, m, e.A, e.B)
		if !sig.Same(x.A, l[0]) || !sig.Same(x.B, l[1]) || len(x.Conds) != len(e.Conds) {
			t.Fatalf("%v becomes %v", e, x)
		}
		both, _ := types.Compose(a, b, c, m, n)
		once, _ := types.ImageEqn(a, c, both, e)
		twice, err := types.ImageEqn(b, c, n, x)
		if err != api.OK || !equal(once, twice) {
			t.Fatalf("%v becomes %v, %v", e, once, twice)
		}
		if same, _ := types.ImageEqn(a, a, identity(a), e); !equal(same, e) {
			t.Fatalf("Identity changes %v to %v", e, same)
		}
		// Standard ahead of the image, or behind it.
		early, _ := types.Standard(a, e)
		early, _ = types.ImageEqn(a, b, m, early)
		if late, _ := types.Standard(b, x); !equal(early, late) {
			t.Fatalf("%v becomes %v, %v", e, early, late)
		}
	}
}
