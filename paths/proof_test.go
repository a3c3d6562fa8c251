package paths_test

import (
	"reflect"
	"slices"
	"testing"

	"madrigal/api"
	"madrigal/paths"
)

type proof = api.PathProof

func sub(at int, l ...proof) proof     { return proof{Rule: api.PathSub, At: at, L: l} }
func place(l ...proof) proof           { return proof{Rule: api.PathPlace, L: l} }
func lex(at int, l ...proof) proof     { return proof{Rule: api.PathLex, At: at, L: l} }
func multi(to []int, l ...proof) proof { return proof{Rule: api.PathMulti, To: to, L: l} }

// P6.2: the chapter's example has one proof.
func TestExampleProof(t *testing.T) {
	o, _ := examples()
	want := place(lex(1, sub(0), sub(0), sub(1, sub(0))))
	p, is, err := paths.Prove(nat().Sig, o, add(v(0), s(v(1))), s(add(v(0), v(1))))
	if !reflect.DeepEqual(p, want) || !is || err != api.OK {
		t.Errorf("%v %v %d", p, is, err)
	}
}

// P6.2
func TestVerify(t *testing.T) {
	x, y, z := v(0), v(1), zero()
	o, m := examples()
	right := order(api.ByRight, 0, 1, 2)
	same, sameRight, sameMulti := order(1, 0, 0, 0), order(2, 0, 0, 0), order(3, 0, 0, 0)
	none := proof{}
	for i, c := range []struct {
		o    api.Order
		a, b api.Term
		p    proof
		is   bool
	}{
		// An argument is equal, or greater.
		{o, s(x), x, sub(0), true}, {o, s(x), x, sub(1), false}, {o, s(x), x, sub(-1), false}, {o, s(x), x, sub(1 << 62), false}, {o, s(x), x, sub(-1 << 63), false},
		{o, s(x), y, sub(0), false}, {o, s(x), s(x), sub(0), false}, {o, x, x, sub(0), false}, {o, z, z, sub(0), false}, {o, x, y, none, false}, {o, s(x), x, none, false},
		{o, s(x), x, proof{Rule: api.PathSub, To: []int{0}}, false}, {o, s(x), x, proof{Rule: api.PathSub, To: []int{}, L: []proof{}}, true},
		{o, s(x), x, sub(0, none), false}, {o, s(s(x)), x, sub(0, sub(0)), true}, {o, s(s(x)), x, sub(0), false}, {o, s(s(x)), x, sub(0, sub(0), sub(0)), false}, {o, s(s(x)), x, sub(0, sub(0), none), false},
		{o, s(s(x)), x, sub(0, sub(0, sub(0))), false}, {o, add(x, y), y, sub(1), true}, {o, add(x, y), y, sub(0), false}, {o, add(x, y), y, sub(2), false},
		{m, s(add(x, y)), add(y, x), sub(0), true}, {o, s(add(x, y)), add(y, x), sub(0), false},
		// A lesser place.
		{o, add(x, y), s(x), place(sub(0)), true}, {o, add(x, y), z, place(), true}, {o, add(x, y), s(x), place(), false}, {o, add(x, y), s(x), place(sub(1)), false}, {o, add(x, y), s(x), place(sub(0), sub(0)), false},
		{o, add(x, y), s(x), proof{Rule: api.PathPlace, At: 1, L: []proof{sub(0)}}, false}, {o, add(x, y), s(x), proof{Rule: api.PathPlace, To: []int{0}, L: []proof{sub(0)}}, false},
		{o, s(x), z, place(), false}, {o, s(x), x, place(), false}, {o, s(x), add(x, x), place(sub(0), sub(0)), false}, {o, z, s(x), place(), false}, {right, add(x, y), s(s(x)), place(place(sub(0))), true}, {right, s(x), z, place(), true},
		{right, add(x, y), s(s(x)), place(none), false}, {right, x, z, place(), false},
		// Lists.
		{o, s(s(x)), s(x), lex(0, sub(0), sub(0, sub(0))), true}, {o, s(s(x)), s(x), lex(0, sub(0)), false}, {o, s(s(x)), s(x), lex(0, sub(0, sub(0))), false}, {o, s(s(x)), s(x), lex(1, sub(0, sub(0))), false}, {o, s(s(x)), s(x), lex(-1, sub(0), sub(0, sub(0))), false}, {o, s(x), s(x), lex(1), false},
		{o, s(s(x)), s(x), proof{Rule: api.PathLex, To: []int{0}, L: []proof{sub(0), sub(0, sub(0))}}, false}, {o, s(s(x)), s(x), lex(0, sub(0), sub(0, sub(0)), none), false}, {o, s(s(x)), s(x), lex(0), false},
		{o, s(x), z, lex(0), true}, {o, s(x), z, lex(0, sub(0)), false}, {o, s(x), z, lex(1), false}, {o, z, z, lex(0), false}, {o, z, s(z), lex(0), false},
		{o, add(x, s(y)), add(x, y), lex(1, sub(0), sub(0), sub(1, sub(0))), true}, {o, add(x, s(y)), add(x, y), lex(0, sub(0), sub(0), sub(1, sub(0))), false}, {o, add(x, s(y)), add(y, y), lex(1, sub(0), sub(1, sub(0)), sub(1, sub(0))), false},
		{o, add(s(x), y), add(x, y), lex(0, sub(0), sub(0, sub(0)), sub(1)), true}, {o, add(s(x), y), add(x, y), lex(0, sub(0), sub(1), sub(0, sub(0))), false},
		{right, add(s(x), y), add(x, y), lex(1, sub(0), sub(0, sub(0)), sub(1)), true}, {right, add(s(x), y), add(x, y), lex(0, sub(0), sub(0, sub(0)), sub(1)), false}, {right, add(x, s(y)), add(s(x), y), lex(0, sub(0), none, sub(1, sub(0))), false},
		{right, add(s(x), s(y)), add(s(x), y), lex(0, sub(0), sub(0), sub(1, sub(0))), true},
		{same, add(x, y), s(x), lex(1, sub(0)), true}, {same, add(x, y), s(x), lex(2, sub(0)), false}, {same, add(x, y), s(x), lex(1), false}, {same, add(x, y), s(x), lex(1, sub(0), sub(0)), false}, {sameRight, add(x, y), s(y), lex(1, sub(1)), true}, {sameRight, add(x, y), s(x), lex(1, sub(0)), false}, {same, add(x, y), s(y), lex(1, sub(1)), false},
		{same, s(x), add(x, y), lex(1, sub(0), sub(0)), false}, {m, add(x, s(y)), add(x, y), lex(1, sub(0), sub(0), sub(1, sub(0))), false}, {right, add(x, y), s(x), lex(1, sub(0)), false}, {o, s(x), x, lex(0), false}, {o, x, z, lex(0), false},
		// Multisets.
		{m, add(s(x), y), add(y, x), multi([]int{1, 0}, none, sub(0)), true}, {m, add(s(x), y), add(y, x), multi([]int{1, 0}, none, none), false}, {m, add(s(x), y), add(y, x), multi([]int{1}, none), false}, {m, add(s(x), y), add(y, x), multi([]int{1, 0, 0}, none, sub(0), none), false},
		{m, add(s(x), y), add(y, x), multi([]int{1, 2}, none, sub(0)), false}, {m, add(s(x), y), add(y, x), multi([]int{1, -1}, none, sub(0)), false}, {m, add(s(x), y), add(y, x), multi([]int{0, 1}, sub(0), none), false}, {m, add(s(x), y), add(y, x), multi([]int{1, 0}, none), false}, {m, add(s(x), y), add(y, x), multi(nil, none, sub(0)), false},
		{m, add(s(x), y), add(y, x), proof{Rule: api.PathMulti, At: 1, To: []int{1, 0}, L: []proof{none, sub(0)}}, false}, {m, add(s(x), y), add(y, x), multi([]int{1, 0}, proof{At: 1}, sub(0)), false}, {m, add(s(x), y), add(y, x), multi([]int{1, 0}, proof{To: []int{0}}, sub(0)), false}, {m, add(s(x), y), add(y, x), multi([]int{1, 0}, proof{L: []proof{none}}, sub(0)), false}, {m, add(s(x), y), add(y, x), multi([]int{1, 0}, proof{To: []int{}, L: []proof{}}, sub(0)), true},
		{m, add(s(x), y), add(x, x), multi([]int{0, 0}, sub(0), sub(0)), true}, {m, add(x, y), add(x, x), multi([]int{0, 0}, none, none), false}, {m, add(x, x), add(x, y), multi([]int{0, 1}, none, none), false}, {m, add(x, y), add(y, x), multi([]int{1, 0}, none, none), false}, {m, add(x, x), add(x, x), multi([]int{0, 1}, none, none), false},
		{sameMulti, add(x, y), s(x), multi([]int{0}, none), true}, {sameMulti, s(x), z, multi(nil), true}, {sameMulti, z, z, multi(nil), false}, {sameMulti, s(x), add(x, x), multi([]int{0, 0}, none, none), false}, {sameMulti, s(s(x)), add(s(x), x), multi([]int{0, 0}, none, sub(0)), false}, {sameMulti, s(s(x)), add(x, x), multi([]int{0, 0}, sub(0), sub(0)), true},
		{sameMulti, add(s(x), x), s(x), multi([]int{1}, none), true}, {sameMulti, add(s(x), x), s(x), multi([]int{0}, none), false}, {sameMulti, add(s(x), x), s(x), multi([]int{0}, sub(0)), true},
		// An equal one need not be in a pair, if another one is greater.
		{m, add(s(x), x), add(x, x), multi([]int{0, 0}, sub(0), sub(0)), true}, {m, add(s(x), x), add(x, x), multi([]int{1, 0}, none, sub(0)), true}, {m, add(s(x), x), add(x, x), multi([]int{0, 1}, sub(0), none), true},
		{m, add(add(x, y), s(z)), add(add(y, x), z), multi([]int{0, 1}, none, sub(0)), true}, {o, add(x, s(y)), add(x, y), multi([]int{0, 1}, none, sub(0)), false}, {m, s(s(x)), s(x), multi([]int{0}, sub(0)), false}, {m, add(x, y), x, multi(nil), false}, {m, add(x, y), s(x), multi([]int{0}, none), false}, {m, x, z, multi(nil), false},
		// Rules that there are not.
		{o, s(x), x, proof{Rule: 5}, false}, {o, s(x), x, proof{Rule: -1}, false}, {o, s(x), x, proof{Rule: 1 << 62}, false}, {o, s(x), x, proof{Rule: -1 << 63}, false},
	} {
		want := api.ErrProof
		if c.is {
			want = api.OK
		}
		if err := paths.Verify(nat().Sig, c.o, c.a, c.b, c.p); err != want {
			t.Errorf("%d: %v and %v by %v: %d", i, c.a, c.b, c.p, err)
		}
		if (teller{c.o}).accepts(c.p, c.a, c.b) != c.is {
			t.Errorf("%d: the oracle", i)
		}
	}
}

// proved checks that there is a proof just if a is greater, and returns it.
func proved(t *testing.T, x api.Sig, o api.Order, a, b api.Term) (proof, bool) {
	t.Helper()
	gr, e1 := paths.Greater(x, o, a, b)
	p, is, e2 := paths.Prove(x, o, a, b)
	if is != gr || e1 != api.OK || e2 != api.OK || !is && !isNone(p) {
		t.Fatalf("by %v, %v and %v: %v, but %v: %v %d %d", o, a, b, gr, is, p, e1, e2)
	}
	want := api.ErrProof
	if is {
		want = api.OK
	}
	if err := paths.Verify(x, o, a, b, p); err != want || is != (teller{o}).accepts(p, a, b) {
		t.Fatalf("by %v, %v and %v: %d of %v", o, a, b, err, p)
	}
	return p, is
}

// rulesIn marks the rules of a proof.
func rulesIn(p proof, met *[5]int) {
	met[p.Rule]++
	for _, x := range p.L {
		rulesIn(x, met)
	}
}

// P6.2, P6.6
func TestProveAllSmall(t *testing.T) {
	m := newMaker(4)
	orders := ordersFor(3, []int{0, 1, 2})
	l := small(3, 0)
	for range 15 {
		o := pick(m, orders...)
		for _, a := range l {
			for _, b := range l {
				proved(t, nat().Sig, o, a, b)
			}
		}
	}
}

// P6.2, P6.6
func TestProveAtRandom(t *testing.T) {
	m := newMaker(5)
	x := flat(0, 0, 1, 1, 2, 2, 3, 3, 5, 8)
	var met [5]int
	for range 20000 {
		o := m.order(x, pick(m, 1, 2, 4, 256))
		a, b := m.two(x, 1+m.Intn(9), m.Intn(4))
		if p, is := proved(t, x, o, a, b); is {
			rulesIn(p, &met)
		}
	}
	for rule, n := range met {
		if n < 500 {
			t.Errorf("rule %d: %d", rule, n)
		}
	}
}

// spoilt returns a proof that is changed at some place; a change can come to the same.
func (m maker) spoilt(p proof) proof {
	out := proof{Rule: p.Rule, At: p.At, To: slices.Clone(p.To), L: slices.Clone(p.L)}
	if len(p.L) > 0 && m.Intn(3) > 0 {
		i := m.Intn(len(p.L))
		out.L[i] = m.spoilt(p.L[i])
		return out
	}
	switch m.Intn(9) {
	case 0:
		out.Rule = m.Intn(7) - 1
	case 1:
		out.At = m.Intn(5) - 1
	case 2:
		out.To = append(out.To, m.Intn(2))
	case 3:
		if len(out.To) > 0 {
			out.To[m.Intn(len(out.To))] = m.Intn(5) - 1
		}
	case 4:
		out.L = append(out.L, pick(m, proof{}, sub(0), sub(1), place()))
	case 5:
		if len(out.L) > 0 {
			out.L = without(out.L, m.Intn(len(out.L)))
		}
	case 6:
		m.Shuffle(len(out.L), func(i, j int) { out.L[i], out.L[j] = out.L[j], out.L[i] })
	case 7:
		return pick(m, proof{}, sub(0), sub(1), place(), sub(0, p), place(p))
	case 8:
		if len(out.L) > 0 {
			return pick(m, out.L...)
		}
	}
	return out
}

// P6.2, P6.6: proofs that are changed, and proofs of other terms.
func TestSpoiltProofs(t *testing.T) {
	m := newMaker(6)
	x := flat(0, 0, 1, 1, 2, 2, 3, 4)
	accepted, refused := 0, 0
	for range 12000 {
		o := m.order(x, pick(m, 1, 2, 4))
		a, b := m.two(x, 2+m.Intn(8), m.Intn(3))
		p, is := proved(t, x, o, a, b)
		if !is {
			b = pick(m, a, v(0), op(0))
		}
		for range 6 {
			q := m.spoilt(p)
			want := (teller{o}).accepts(q, a, b)
			err := paths.Verify(x, o, a, b, q)
			if err != api.OK && err != api.ErrProof || (err == api.OK) != want {
				t.Fatalf("by %v, %v and %v: %d of %v", o, a, b, err, q)
			}
			if !want {
				refused++
				continue
			}
			accepted++
			if is, _ := paths.Greater(x, o, a, b); !is {
				t.Fatalf("by %v, %v and %v: accepted: %v", o, a, b, q)
			}
		}
	}
	if accepted < 1000 || refused < 20000 {
		t.Errorf("%d accepted, %d refused", accepted, refused)
	}
}

// P6.2, P6.6: all proofs that are small, for some terms.
func TestAllSmallProofs(t *testing.T) {
	leaves := []proof{{}, sub(0), sub(1), place(), lex(0), sub(0, sub(0))}
	lists := [][]proof{nil}
	for _, p := range leaves {
		lists = append(lists, []proof{p})
		for _, q := range leaves {
			lists = append(lists, []proof{p, q}, []proof{p, q, sub(1)}, []proof{sub(0), p, q})
		}
	}
	x, y := v(0), v(1)
	pairs := [][2]api.Term{{add(s(x), y), add(y, x)}, {add(x, s(y)), add(x, y)}, {s(s(x)), s(x)}, {add(s(x), x), s(x)}, {add(x, y), add(y, x)}, {add(s(x), s(x)), add(x, x)}}
	o, m := examples()
	count := 0
	for _, o := range []api.Order{o, m, order(2, 0, 0, 0), order(3, 0, 0, 0)} {
		for _, c := range pairs {
			for rule := range 6 {
				for at := -1; at < 3; at++ {
					for _, to := range [][]int{nil, {0}, {1}, {0, 0}, {0, 1}, {1, 0}, {1, 1}, {2, 0}} {
						for _, l := range lists {
							p := proof{Rule: rule, At: at, To: to, L: l}
							is := (teller{o}).accepts(p, c[0], c[1])
							if is != (paths.Verify(nat().Sig, o, c[0], c[1], p) == api.OK) {
								t.Fatalf("by %v, %v and %v: %v", o, c[0], c[1], p)
							}
							if is {
								count++
							}
						}
					}
				}
			}
		}
	}
	if count < 25 {
		t.Errorf("%d of them", count)
	}
}

// towers: s of s of .. of b, and of a, by an order in which a proof has no other way than that by lists.
func towers(count int) (api.Sig, api.Order, api.Term, api.Term) {
	return flat(0, 1, 0), order(api.ByLeft, 0, 2, 1), high(count, op(2)), high(count, op(0))
}

// P6.2: proofs are not greater than they have to be, and those that would be too great are not made.
func TestGreatProofs(t *testing.T) {
	x, o, a, b := towers(14)
	if p, is := proved(t, x, o, a, b); !is || nodesOf(p) != 1<<15-1 {
		t.Errorf("towers: %v, %d nodes", is, nodesOf(p))
	}
	// By an argument ahead of all, this proof would have the one of towers in it.
	y := flat(0, 1, 0, 1)
	o = order(api.ByLeft, 0, 2, 1, 3)
	_, _, a, b = towers(150)
	if p, is := proved(t, y, o, op(3, a), b); !is || nodesOf(p) > 200 {
		t.Errorf("a tower within: %v, %d nodes", is, nodesOf(p))
	}
	// By multisets: one node a level.
	o = order(api.ByMulti, 0, 2, 1)
	if p, is := proved(t, x, o, a, b); !is || nodesOf(p) > 200 {
		t.Errorf("towers by multisets: %v, %d nodes", is, nodesOf(p))
	}
	x, o, a, b = towers(190)
	if is, err := paths.Greater(x, o, a, b); !is || err != api.OK {
		t.Errorf("high towers: %v %d", is, err)
	}
	if p, is, err := paths.Prove(x, o, a, b); is || err != api.ErrLimit || !isNone(p) {
		t.Errorf("the proof of high towers: %v %v %d", p, is, err)
	}
	if p, is, err := paths.Prove(x, o, b, a); is || err != api.OK || !isNone(p) {
		t.Errorf("the proof of high towers, turned round: %v %v %d", p, is, err)
	}
}

// P6.2: a proof that shares memory can have more nodes than can be gone through.
func TestSharedProof(t *testing.T) {
	made := map[[2]int]proof{}
	var tower func(n, m int) proof // of s(..(b)) and s(..(a))
	tower = func(n, m int) proof {
		if p, is := made[[2]int{n, m}]; is {
			return p
		}
		p := place()
		if m > 0 {
			p = lex(0, tower(n-1, m-1), tower(n, m-1))
		}
		made[[2]int{n, m}] = p
		return p
	}
	x, o, a, b := towers(12)
	if err := paths.Verify(x, o, a, b, tower(12, 12)); err != api.OK {
		t.Errorf("towers: %d", err)
	}
	x, o, a, b = towers(190)
	if err := paths.Verify(x, o, a, b, tower(190, 190)); err != api.ErrLimit {
		t.Errorf("high towers: %d", err)
	}
	circle := sub(0)
	for range 300 {
		circle = sub(0, circle)
	}
	if err := paths.Verify(x, o, a, b, circle); err != api.ErrProof {
		t.Errorf("a proof deeper than terms: %d", err)
	}
}

// P6.2: the proof is the least one.
func TestLeastProofs(t *testing.T) {
	x, y := v(0), v(1)
	o, m := examples()
	for i, c := range []struct {
		o     api.Order
		a, b  api.Term
		nodes int
	}{
		{o, add(wide(101), wide(103)), wide(101), 1}, {o, add(zero(), wide(103)), wide(103), 1}, {o, s(s(s(x))), x, 3}, {o, add(s(s(s(x))), s(x)), x, 2}, {o, add(s(x), s(s(s(x)))), x, 2}, {o, add(x, y), s(s(s(y))), 4},
		{m, add(s(x), y), add(y, x), 3}, {m, add(s(s(x)), add(x, y)), add(x, y), 1}, {m, add(s(s(x)), s(y)), add(x, s(y)), 4},
		{order(3, 0, 0, 0), add(s(s(s(x))), s(x)), add(x, y), 0}, {order(3, 0, 0, 0), add(s(s(s(x))), s(x)), s(s(s(x))), 1},
		{order(3, 0, 0, 1), add(s(s(s(x))), s(x)), add(x, x), 3},
	} {
		p, is := proved(t, nat().Sig, c.o, c.a, c.b)
		if is != (c.nodes > 0) || is && nodesOf(p) != c.nodes {
			t.Errorf("%d: %d nodes: %v", i, nodesOf(p), p)
		}
	}
}
