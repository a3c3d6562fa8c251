package sig_test

import (
	"math/rand"
	"slices"
	"testing"

	"madrigal/api"
	"madrigal/sig"
)

// allPlaces tries all lists of indices up to a length.
func allPlaces(t api.Term, at []int, levels int) [][]int {
	x, err := sig.At(t, at)
	if err != api.OK || levels == 0 {
		return nil
	}
	out := [][]int{at}
	for i := range len(x.L) {
		out = append(out, allPlaces(t, append(slices.Clone(at), i), levels-1)...)
	}
	return out
}

func samePlaces(a, b [][]int) bool { return slices.EqualFunc(a, b, slices.Equal[[]int]) }

// P4.3
func TestPaths(t *testing.T) {
	for _, c := range []struct {
		t    api.Term
		want [][]int
	}{
		{v(0), [][]int{nil}}, {zero(), [][]int{nil}},
		{plus(v(0), s(zero())), [][]int{nil, {0}, {1}, {1, 0}}},
		{op(0, s(v(0)), v(1), plus(v(2), zero())), [][]int{nil, {0}, {0, 0}, {1}, {2}, {2, 0}, {2, 1}}},
	} {
		if l, err := sig.Paths(c.t); !samePlaces(l, c.want) || err != api.OK {
			t.Errorf("Paths of %v: %v %d", c.t, l, err)
		}
	}
	for _, x := range noTrees() {
		if l, err := sig.Paths(x); len(l) != 0 || err != api.ErrTerm {
			t.Errorf("Paths: %v %d", l, err)
		}
	}
	r := rand.New(rand.NewSource(6))
	for range 500 {
		x := anyTree(r, 20, 3)
		l, err := sig.Paths(x)
		if !samePlaces(l, allPlaces(x, nil, 20)) || err != api.OK {
			t.Fatalf("Paths of %v: %v %d", x, l, err)
		}
		if n, _ := nodesOf(x); len(l) != n || !slices.IsSortedFunc(l, slices.Compare[[]int]) {
			t.Fatalf("Paths of %v: %v", x, l)
		}
	}
	if l, err := sig.Paths(high(200, zero())); len(l) != 200 || len(l[199]) != 199 || err != api.OK {
		t.Errorf("Paths of a high tree: %d %d", len(l), err)
	}
	if l, err := sig.Paths(wide(2000)); len(l) != 2000 || err != api.OK {
		t.Errorf("Paths of a wide tree: %d %d", len(l), err)
	}
}

// P4.3
func TestPathsHaveMemory(t *testing.T) {
	x := plus(plus(s(v(0)), s(zero())), op(9, v(0), v(1), high(20, v(2))))
	l, _ := sig.Paths(x)
	want, _ := sig.Paths(x)
	for i := range l {
		// What is written behind a place, or over it, is written over no other one.
		all := l[i][:cap(l[i])]
		for k := range all {
			all[k] = -1
		}
		for k := i + 1; k < len(l); k++ {
			if !slices.Equal(l[k], want[k]) {
				t.Fatalf("place %d shares memory with place %d", k, i)
			}
		}
	}
}

// P4.3
func TestAt(t *testing.T) {
	x := plus(v(0), s(plus(zero(), v(4))))
	for _, c := range []struct {
		path []int
		want api.Term
		err  api.Errno
	}{
		{nil, x, api.OK}, {[]int{}, x, api.OK}, {[]int{0}, v(0), api.OK}, {[]int{1}, s(plus(zero(), v(4))), api.OK},
		{[]int{1, 0}, plus(zero(), v(4)), api.OK}, {[]int{1, 0, 1}, v(4), api.OK},
		{[]int{2}, api.Term{}, api.ErrPath}, {[]int{-1}, api.Term{}, api.ErrPath}, {[]int{0, 0}, api.Term{}, api.ErrPath}, {[]int{1, 1}, api.Term{}, api.ErrPath},
		{[]int{1, 0, 1, 0}, api.Term{}, api.ErrPath}, {[]int{1, 0, -1 << 63}, api.Term{}, api.ErrPath}, {[]int{1<<63 - 1}, api.Term{}, api.ErrPath},
		{make([]int, 100000), api.Term{}, api.ErrPath},
	} {
		if y, err := sig.At(x, c.path); !equal(y, c.want) || err != c.err {
			t.Errorf("At a place of length %d: %v %d", len(c.path), y, err)
		}
		y, err := sig.Put(x, c.path, op(8, v(9)))
		if err != c.err || err != api.OK && !isZero(y) {
			t.Errorf("Put at a place of length %d: %d", len(c.path), err)
		}
	}
	for _, x := range noTrees() {
		if y, err := sig.At(x, []int{5}); !isZero(y) || err != api.ErrTerm {
			t.Errorf("At: %v %d", y, err)
		}
		if y, err := sig.Put(x, []int{5}, zero()); !isZero(y) || err != api.ErrTerm {
			t.Errorf("Put: %v %d", y, err)
		}
		for _, path := range [][]int{nil, {5}} {
			if y, err := sig.Put(zero(), path, x); !isZero(y) || err != api.ErrTerm {
				t.Errorf("Put: %v %d", y, err)
			}
		}
	}
}

// P4.3
func TestPut(t *testing.T) {
	x := plus(v(0), s(zero()))
	for _, c := range []struct {
		path []int
		u    api.Term
		want api.Term
	}{
		{nil, v(5), v(5)}, {[]int{0}, zero(), plus(zero(), s(zero()))}, {[]int{1}, v(7), plus(v(0), v(7))}, {[]int{1, 0}, x, plus(v(0), s(x))},
	} {
		if y, err := sig.Put(x, c.path, c.u); !equal(y, c.want) || err != api.OK {
			t.Errorf("Put at %v: %v %d", c.path, y, err)
		}
	}
	end := slices.Repeat([]int{0}, 99)
	for _, c := range []struct {
		t    api.Term
		path []int
		u    api.Term
		err  api.Errno
	}{
		{high(100, v(0)), end, high(101, zero()), api.OK},
		{high(100, v(0)), end, high(102, zero()), api.ErrLimit},
		{high(200, v(0)), nil, high(200, zero()), api.OK},
		{high(200, v(0)), []int{0}, high(199, zero()), api.OK},
		{high(200, v(0)), []int{0}, high(200, zero()), api.ErrLimit},
		{plus(wide(1000), v(0)), []int{1}, wide(999), api.OK},
		{plus(wide(1000), v(0)), []int{1}, wide(1000), api.ErrLimit},
		{plus(wide(1998), v(0)), []int{1}, wide(2000), api.ErrLimit},
		{plus(wide(1998), v(0)), []int{0}, wide(1998), api.OK},
		{plus(wide(1998), v(0)), []int{0}, wide(1999), api.ErrLimit},
		{plus(wide(1998), v(0)), []int{2}, wide(1999), api.ErrPath},
	} {
		y, err := sig.Put(c.t, c.path, c.u)
		if err != c.err || err != api.OK && !isZero(y) || err == api.OK && sig.Tree(y) != api.OK {
			t.Errorf("Put: %d, not %d", err, c.err)
		}
	}
}

// P4.7
func TestPlacesLaws(t *testing.T) {
	r := rand.New(rand.NewSource(7))
	for range 600 {
		x, u := anyTree(r, 16, 3), anyTree(r, 8, 3)
		places, _ := sig.Paths(x)
		for _, p := range places {
			was, err := sig.At(x, p)
			y, err2 := sig.Put(x, p, u)
			at, err3 := sig.At(y, p)
			back, err4 := sig.Put(y, p, was)
			if err != api.OK || err2 != api.OK || err3 != api.OK || err4 != api.OK || !sig.Same(at, u) || !sig.Same(back, x) {
				t.Fatalf("%v at %v of %v: %v", u, p, x, y)
			}
			for _, q := range places {
				if slices.Equal(q, p[:min(len(q), len(p))]) || slices.Equal(p, q[:min(len(q), len(p))]) {
					continue
				}
				a, _ := sig.At(x, q)
				b, err := sig.At(y, q)
				if err != api.OK || !equal(a, b) {
					t.Fatalf("%v at %v of %v: %v has changed", u, p, x, q)
				}
			}
			for n := range len(p) {
				a, _ := sig.At(x, p[:n])
				b, _ := sig.At(y, p[:n])
				if a.Kind != b.Kind || a.N != b.N || len(a.L) != len(b.L) {
					t.Fatalf("%v at %v of %v: %v has changed", u, p, x, p[:n])
				}
			}
		}
	}
}
