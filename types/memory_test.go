package types_test

import (
	"reflect"
	"slices"
	"testing"

	"madrigal/api"
	"madrigal/types"
)

// isNew checks that what call returns shares no memory with what it gets, nor within itself, and that it changes nothing of that.
func isNew[A, R any](t *testing.T, name string, arg A, call func(A) R) {
	t.Helper()
	kept := copyOf(arg)
	got := call(arg)
	if !reflect.DeepEqual(arg, kept) {
		t.Errorf("%s changes an argument", name)
	}
	if met := map[uintptr]bool{}; !alone(reflect.ValueOf(got), met) {
		t.Errorf("%s: two lists of a result share memory", name)
	}
	scribble(reflect.ValueOf(&got).Elem(), true)
	if !reflect.DeepEqual(arg, kept) {
		t.Errorf("%s: a result shares memory with an argument", name)
	}
	if isZero(call(arg)) {
		t.Errorf("%s returns nothing", name)
	}
}

// alone reports whether no two lists of a value have the same memory.
func alone(x reflect.Value, met map[uintptr]bool) bool {
	switch x.Kind() {
	case reflect.Slice:
		if x.Cap() > 0 {
			if met[x.Pointer()] {
				return false
			}
			met[x.Pointer()] = true
		}
		for i := range x.Len() {
			if !alone(x.Index(i), met) {
				return false
			}
		}
	case reflect.Struct:
		for i := range x.NumField() {
			if !alone(x.Field(i), met) {
				return false
			}
		}
	}
	return true
}

// sharing is a type whose equations, operations and terms share memory.
func sharing() api.Type {
	x := numbers()
	less := op(1, op(1, v(0)))
	args := []int{0, 0}
	x.Sig.Ops = append(x.Sig.Ops, api.Op{Name: "_+_", Args: args}, api.Op{Name: "_*_", Args: args})
	both := op(5, less, less)
	x.Eqns = append(x.Eqns, api.Eqn{Vars: args, Conds: []api.Pair{{A: less, B: both}, {A: both, B: less}}, A: both, B: both}, api.Eqn{Vars: args, A: op(6, less, less), B: both})
	return x
}

type sum struct {
	T    api.Type
	M, N api.Morph
}

// P5.1, P5.2, P5.3
func TestNewMemoryOfTypes(t *testing.T) {
	x := sharing()
	id := identity(x.Sig)
	isNew(t, "Standard", x, func(x api.Type) api.Eqn {
		e, _ := types.Standard(x.Sig, x.Eqns[4])
		return e
	})
	isNew(t, "Identity", x, func(x api.Type) api.Morph { return identity(x.Sig) })
	isNew(t, "Compose", id, func(m api.Morph) api.Morph {
		m, _ = types.Compose(x.Sig, x.Sig, x.Sig, m, m)
		return m
	})
	isNew(t, "Image", x, func(x api.Type) api.Term {
		e, _ := types.Image(x.Sig, x.Sig, id, x.Eqns[4].A)
		return e
	})
	isNew(t, "ImageEqn", x, func(x api.Type) api.Eqn {
		e, _ := types.ImageEqn(x.Sig, x.Sig, id, x.Eqns[4])
		return e
	})
	isNew(t, "Sum", []api.Type{x, numbers()}, func(l []api.Type) sum {
		t, m, n, _ := types.Sum(l[0], l[1])
		return sum{t, m, n}
	})
	isNew(t, "Sum, of nothing and it", x, func(x api.Type) sum {
		t, m, n, _ := types.Sum(api.Type{}, x)
		return sum{t, m, n}
	})
}

// P5.4, P5.5
func TestNewMemoryOfModules(t *testing.T) {
	x := sharing()
	var ops []string
	for _, o := range x.Sig.Ops {
		ops = append(ops, o.Name)
	}
	l := []api.Module{
		own("Own", x),
		{Name: "Formal", Kind: api.MoText, Formal: x},
		{Name: "A", Kind: api.MoActual, Uses: []int{1, 0}, SortTo: []int{0, 1}, OpTo: []int{0, 1, 2, 3, 4, 5, 6}},
		{Name: "R", Kind: api.MoRename, Uses: []int{2}, Sorts: slices.Clone(x.Sig.Sorts), Ops: ops},
		own("T", api.Type{}, 2, 3),
		{Name: "B", Kind: api.MoActual, Uses: []int{3, 4}},
		own("U", api.Type{}, 5, 4, 2),
	}
	for k := range l {
		isNew(t, "Flatten", l, func(l []api.Module) api.Flat { return flat(t, l, k) })
		if k != 1 {
			isNew(t, "Closed", l, func(l []api.Module) api.Type {
				x, _ := types.Closed(l, k)
				return x
			})
		}
		for i := range l[k].Uses {
			isNew(t, "Into", l, func(l []api.Module) api.Morph { return into(t, l, k, i) })
		}
		if k > 1 {
			isNew(t, "Duties", l, func(l []api.Module) []api.Duty { return dutiesOf(t, l, k) })
		}
	}
}

// P5.4, P5.5: nil and empty lists are the same.
func TestEmptyLists(t *testing.T) {
	r := newMaker(12)
	for range 40 {
		l := r.list(6)
		full := filled(reflect.ValueOf(l)).Interface().([]api.Module)
		if types.CheckModules(full) != api.OK {
			t.Fatalf("empty lists: %v", full)
		}
		for k := range l {
			if !equal(flat(t, l, k), flat(t, full, k)) || !equal(dutiesOf(t, l, k), dutiesOf(t, full, k)) {
				t.Fatalf("empty lists: %v", full)
			}
		}
	}
}

// filled returns a value with empty lists in the place of nil.
func filled(x reflect.Value) reflect.Value {
	out := reflect.New(x.Type()).Elem()
	switch x.Kind() {
	case reflect.Slice:
		out.Set(reflect.MakeSlice(x.Type(), x.Len(), x.Len()))
		for i := range x.Len() {
			out.Index(i).Set(filled(x.Index(i)))
		}
	case reflect.Struct:
		for i := range x.NumField() {
			out.Field(i).Set(filled(x.Field(i)))
		}
	default:
		out.Set(x)
	}
	return out
}

// P5.4: the same results again, and for the same list in other memory.
func TestSameAgain(t *testing.T) {
	r := newMaker(13)
	for range 30 {
		l := r.list(8)
		for k := range l {
			want := flat(t, l, k)
			for range 3 {
				if got := flat(t, copyOf(l), k); !reflect.DeepEqual(got, want) {
					t.Fatalf("%v, then %v", want, got)
				}
			}
		}
	}
}
