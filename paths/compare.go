package paths

import (
	"slices"

	"madrigal/api"
)

// part is a part of a term that is compared.
type part struct {
	isOp          bool
	place, status int
	l             []*part // the arguments
	row           []*part // the arguments, from the side of the status
	class         int     // equal parts have the same one, and only they
	vars          uint64  // a bit for each variable within; some have the same one
}

// face is what equal parts have in common, and only they.
type face struct {
	isOp  bool
	n     int // the place, or the variable
	count int
	args  [api.MaxArgs]int // the classes of the arguments
}

// pair is the classes of two parts.
type pair struct{ a, b int }

// comparison keeps what is known of parts of terms. Whether one is greater than another one depends on their classes alone.
type comparison struct {
	order   api.Order
	classes map[face]int
	known   map[pair]bool // whether the first one is greater
}

// compare returns the parts that terms are, and what compares them.
func compare(o api.Order, l ...api.Term) (*comparison, []*part) {
	c := &comparison{order: o, classes: map[face]int{}, known: map[pair]bool{}}
	var out []*part
	for _, t := range l {
		out = append(out, c.part(t))
	}
	return c, out
}

func (c *comparison) part(t api.Term) *part {
	if t.Kind == api.KVar {
		return &part{class: c.class(face{n: t.N}), vars: 1 << (t.N % 64)}
	}
	p := &part{isOp: true, place: c.order.Place[t.N], status: c.order.Status[t.N]}
	f := face{isOp: true, n: p.place, count: len(t.L)}
	for i, t := range t.L {
		x := c.part(t)
		p.l = append(p.l, x)
		p.vars |= x.vars
		f.args[i] = x.class
	}
	p.row = p.l
	switch p.status {
	case api.ByRight:
		p.row = slices.Clone(p.l)
		slices.Reverse(p.row)
	case api.ByMulti:
		slices.Sort(f.args[:f.count])
	}
	p.class = c.class(f)
	return p
}

func (c *comparison) class(f face) int {
	k, met := c.classes[f]
	if !met {
		k = len(c.classes)
		c.classes[f] = k
	}
	return k
}

// greater reports whether a is greater than b.
func (c *comparison) greater(a, b *part) bool {
	// What has a variable that a has not is not less.
	if a.class == b.class || b.vars&^a.vars != 0 {
		return false
	}
	key := pair{a.class, b.class}
	if is, met := c.known[key]; met {
		return is
	}
	rules := [...]func(c *comparison, a, b *part) bool{(*comparison).byPlace, (*comparison).byLex, (*comparison).byMulti, (*comparison).bySub}
	is := slices.ContainsFunc(rules[:], func(holds func(c *comparison, a, b *part) bool) bool { return holds(c, a, b) })
	c.known[key] = is
	return is
}

// above reports whether a is greater than each one of l.
func (c *comparison) above(a *part, l ...*part) bool {
	for _, b := range l {
		if !c.greater(a, b) {
			return false
		}
	}
	return true
}

func (c *comparison) bySub(a, b *part) bool {
	return slices.ContainsFunc(a.l, func(x *part) bool { return x.class == b.class || c.greater(x, b) })
}

func (c *comparison) byPlace(a, b *part) bool {
	return a.isOp && b.isOp && a.place > b.place && c.above(a, b.l...)
}

// sided reports whether two parts have equal places, and a status that is ByMulti, or is not.
func sided(a, b *part, multi bool) bool {
	return a.isOp && b.isOp && a.place == b.place && (a.status == api.ByMulti) == multi
}

func (c *comparison) byLex(a, b *part) bool {
	if !sided(a, b, false) {
		return false
	}
	k := passed(a, b)
	return k < len(a.row) && (k == len(b.row) || c.greater(a.row[k], b.row[k])) && c.above(a, b.l...)
}

// passed returns how many arguments of two parts are equal, from the side of the status on.
func passed(a, b *part) int {
	k := 0
	for k < len(a.row) && k < len(b.row) && a.row[k].class == b.row[k].class {
		k++
	}
	return k
}

func (c *comparison) byMulti(a, b *part) bool {
	if !sided(a, b, true) {
		return false
	}
	to, left := paired(a, b)
	for j, y := range b.l {
		if to[j] < 0 && !slices.ContainsFunc(left, func(i int) bool { return c.greater(a.l[i], y) }) {
			return false
		}
	}
	return len(left) > 0
}

// paired puts as many arguments of a as can be in pairs with equal ones of b. It returns which one is in a pair with each one of b (-1: none), and those that are left.
func paired(a, b *part) (to, left []int) {
	to = slices.Repeat([]int{-1}, len(b.l))
	for i, x := range a.l {
		equal := func(j int) bool { return to[j] < 0 && b.l[j].class == x.class }
		if j := firstBelow(len(b.l), equal); j >= 0 {
			to[j] = i
		} else {
			left = append(left, i)
		}
	}
	return to, left
}

// firstBelow returns the first number from 0 on that is so, -1 if there is none below end.
func firstBelow(end int, is func(int) bool) int {
	for i := range end {
		if is(i) {
			return i
		}
	}
	return -1
}
