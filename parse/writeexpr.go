package parse

import (
	"madrigal/api"
	"madrigal/lex"
)

// byName returns the operation that a node applies, if it does.
func (w *writer) byName(n api.Node) (operation, bool) {
	o, is := w.ops[n.S]
	if n.Kind != api.NdApp || !is {
		return operation{}, false
	}
	if len(n.L) != arguments(o.Mix) {
		panic(unwritable{})
	}
	return o, true
}

// priority returns what the priority of a node is that stands in no brackets.
func (w *writer) priority(n api.Node) int {
	if o, is := w.byName(n); is {
		return o.own()
	}
	return greatest
}

// isEnded reports whether a node ends with a token of its own, and not with an argument that could take what follows.
func (w *writer) isEnded(n api.Node) bool {
	o, is := w.byName(n)
	return !is || !o.Right
}

// takes reports whether an operation that follows a node without brackets would belong to the last argument of that, though the node as a whole could stand to the left of it. (If the last argument does not take it, nothing within that does: it is read up to a priority that is not less.)
func (w *writer) takes(n api.Node, by operation) bool {
	o, _ := w.byName(n)
	return !w.isEnded(n) && o.limit() <= by.Prio
}

func (w *writer) expression(n api.Node) { w.upTo(0, n) }

// upTo writes a node where an expression up to a priority is read.
func (w *writer) upTo(least int, n api.Node) {
	if w.open(least, n) {
		w.words(")")
	}
}

func (w *writer) inBrackets(n api.Node) {
	w.words("(")
	w.upTo(0, n)
	w.words(")")
}

// open writes a node where an expression up to a priority is read, and reports whether brackets are to be closed, at once or behind what this node is the first element of.
func (w *writer) open(least int, n api.Node) bool {
	if w.priority(n) < least {
		w.words("(")
		w.upTo(0, n)
		return true
	}
	if o, is := w.byName(n); is {
		return w.apply(least, o, n.L)
	}
	if n.Kind == api.NdOf {
		return w.of(least, n)
	}
	if n.Kind != api.NdApp {
		panic(unwritable{})
	}
	w.name(n.S)
	w.around("(", n.L, ")", w.separated)
	return false
}

func (w *writer) of(least int, n api.Node) bool {
	isOpen := false
	if x := element(n, 0); w.isEnded(x) {
		isOpen = w.open(least, x)
	} else {
		w.inBrackets(x)
	}
	isOpen = w.keepOpen(isOpen, wordToken("of"))
	w.words("of")
	w.name(n.S)
	return isOpen
}

func (w *writer) apply(least int, o operation, l []api.Node) bool {
	isOpen := false
	if o.Left {
		if x := l[0]; !o.admits(w.priority(x)) || w.takes(x, o) {
			w.inBrackets(x)
		} else {
			isOpen = w.open(least, x)
		}
		isOpen = w.keepOpen(isOpen, nameToken(o.Parts[0]))
		l = l[1:]
	}
	w.name(o.Parts[0])
	for i, part := range o.Parts[1:] {
		w.upTo(0, l[i])
		w.name(part)
	}
	if o.Right {
		w.upTo(o.limit(), l[len(l)-1])
	}
	return isOpen
}

// keepOpen closes brackets that are open, unless they can stay open ahead of a token: they are closed where they spare a blank.
func (w *writer) keepOpen(isOpen bool, next api.Token) bool {
	if !isOpen {
		return false
	}
	isApart, err := lex.Apart(w.tokens[len(w.tokens)-1], next)
	if err == api.OK && !isApart {
		w.words(")")
		return false
	}
	return true
}
