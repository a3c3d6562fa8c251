package show

import (
	"strings"

	"madrigal/api"
	"madrigal/parse"
)

// greatest is the priority of what needs no brackets anywhere.
const greatest = api.MaxPrio + 1

// operation is an operation that is written around its arguments.
type operation struct {
	api.Mix
	arguments int
}

// own returns the priority that what an operation makes has without brackets.
func (o operation) own() int {
	if !o.Left && !o.Right {
		return greatest
	}
	return o.Prio
}

// limit returns up to which priority the right argument is read.
func (o operation) limit() int {
	if o.Side == api.SideRight || !o.Left {
		return o.Prio
	}
	return o.Prio + 1
}

// admits reports whether what has a priority can stand to the left.
func (o operation) admits(prio int) bool {
	return prio > o.Prio || prio == o.Prio && o.Side == api.SideLeft
}

// expressions writes expressions by operations.
type expressions struct {
	tokens
	ops    map[string]operation // by their names
	begins map[string]bool      // the first parts of those without an argument to the left
}

func newExpressions(ops []api.Mix) expressions {
	w := expressions{ops: map[string]operation{}, begins: map[string]bool{}}
	for _, x := range ops {
		name, err := parse.MixName(x)
		if err != api.OK {
			throw(err)
		}
		w.ops[name] = operation{x, strings.Count(name, "_")}
		if !x.Left {
			w.begins[x.Parts[0]] = true
		}
	}
	return w
}

// operation returns the operation that a node applies, if it does.
func (w *expressions) operation(n api.Node) (operation, bool) {
	o, is := w.ops[n.S]
	if n.Kind != api.NdApp || !is {
		return operation{}, false
	}
	if len(n.L) != o.arguments {
		throw(api.ErrShown)
	}
	return o, true
}

// priority returns the priority of an expression without brackets.
func (w *expressions) priority(n api.Node) int {
	if o, is := w.operation(n); is {
		return o.own()
	}
	return greatest
}

// right returns the operation whose right argument an expression ends with, if it does.
func (w *expressions) right(n api.Node) (operation, bool) {
	o, is := w.operation(n)
	return o, is && o.Right
}

// takes reports whether an operation behind an expression without brackets, to the left of which this could stand as a whole, would belong to the argument at its end. (That argument alone tells: if it is read up to a priority that is not greater, it could stand to the left, too; otherwise it is read up to a greater one, and so is all that it ends with.)
func (w *expressions) takes(n api.Node, by operation) bool {
	o, is := w.right(n)
	return is && o.limit() <= by.Prio
}

// upTo writes an expression where one up to a priority is read.
func (w *expressions) upTo(least int, n api.Node) {
	if w.priority(n) < least {
		w.inBrackets(n)
		return
	}
	w.bare(least, n)
}

func (w *expressions) inBrackets(n api.Node) {
	w.words("(")
	w.bare(0, n)
	w.words(")")
}

func (w *expressions) bare(least int, n api.Node) {
	if n.N != 0 {
		throw(api.ErrShown)
	}
	if o, is := w.operation(n); is {
		w.apply(least, o, n.L)
		return
	}
	switch n.Kind {
	case api.NdOf:
		w.of(least, n)
	case api.NdApp:
		w.partOrNumber(n)
	default:
		throw(api.ErrShown)
	}
}

func (w *expressions) of(least int, n api.Node) {
	if len(n.L) != 1 {
		throw(api.ErrShown)
	}
	if _, is := w.right(n.L[0]); is {
		w.inBrackets(n.L[0])
	} else {
		w.upTo(least, n.L[0])
	}
	w.words("of")
	w.name(n.S)
}

func (w *expressions) partOrNumber(n api.Node) {
	if n.S != "" && isDigit(n.S[0]) && len(n.L) == 0 {
		w.digits(n.S)
		return
	}
	if w.begins[n.S] {
		throw(api.ErrShown)
	}
	w.part(n.S)
	if len(n.L) > 0 {
		w.words("(")
		w.arguments(n.L)
		w.words(")")
	}
}

// arguments writes expressions with "," between.
func (w *expressions) arguments(l []api.Node) {
	for i, x := range l {
		if i > 0 {
			w.words(",")
		}
		w.upTo(0, x)
	}
}

func (w *expressions) apply(least int, o operation, l []api.Node) {
	if o.Left {
		w.left(least, o, l[0])
		l = l[1:]
	}
	w.part(o.Parts[0])
	for i, part := range o.Parts[1:] {
		w.upTo(0, l[i])
		w.part(part)
	}
	if o.Right {
		w.upTo(o.limit(), l[len(l)-1])
	}
}

// left writes the left argument of an operation that stands where an expression up to a priority is read. (What it admits can stand there, too.)
func (w *expressions) left(least int, o operation, n api.Node) {
	if !o.admits(w.priority(n)) || w.takes(n, o) {
		w.inBrackets(n)
		return
	}
	w.bare(least, n)
}
