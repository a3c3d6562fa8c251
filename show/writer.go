package show

import "madrigal/api"

// shape is what the nodes of a kind have: how many elements, and whether S and N say something.
type shape struct {
	elements        int
	hasName, hasNum bool
}

// many says that there is any number of elements.
const many = -1

// form is how the nodes of a kind are written.
type form struct {
	shape
	write func(*writer, api.Node)
}

// writer writes the nodes of texts.
type writer struct {
	expressions
	forms      map[int]form          // by kinds
	behaviours map[int]behaviourForm // by kinds
}

func newWriter(ops []api.Mix) *writer {
	return &writer{expressions: newExpressions(ops), forms: forms(), behaviours: behaviourForms()}
}

// need throws unless a node has a shape.
func (s shape) need(n api.Node) {
	if n.S != "" && !s.hasName || n.N != 0 && !s.hasNum || len(n.L) != s.elements && s.elements != many {
		throw(api.ErrShown)
	}
}

// one writes a node, which has to be of a kind.
func (w *writer) one(kind int, n api.Node) {
	f := w.forms[kind]
	if n.Kind != kind {
		throw(api.ErrShown)
	}
	f.need(n)
	f.write(w, n)
}

// oneOf writes a node, which has to be of some of these kinds.
func (w *writer) oneOf(n api.Node, kinds ...int) {
	for _, kind := range kinds {
		if n.Kind == kind {
			w.one(kind, n)
			return
		}
	}
	throw(api.ErrShown)
}

// elements returns what is in a list.
func elements(n api.Node) []api.Node {
	if n.Kind != api.NdList {
		throw(api.ErrShown)
	}
	shape{elements: many}.need(n)
	return n.L
}

// separated writes one or more nodes of some kinds with "," between.
func (w *writer) separated(l []api.Node, kinds ...int) {
	if len(l) == 0 {
		throw(api.ErrShown)
	}
	for i, x := range l {
		if i > 0 {
			w.words(",")
		}
		w.oneOf(x, kinds...)
	}
}

// around writes what is in brackets, if there is something in a list.
func (w *writer) around(open string, l []api.Node, end string, write func([]api.Node)) {
	if len(l) > 0 {
		w.words(open)
		write(l)
		w.words(end)
	}
}

// behind writes what stands behind a word, if there is something in a list.
func (w *writer) behind(word string, l []api.Node, write func([]api.Node)) {
	if len(l) > 0 {
		w.words(word)
		write(l)
	}
}

// those returns how nodes of a kind are written with "," between.
func (w *writer) those(kind int) func([]api.Node) {
	return func(l []api.Node) { w.separated(l, kind) }
}

// allOf returns how nodes of some kinds are written one behind the other.
func (w *writer) allOf(kinds ...int) func([]api.Node) {
	return func(l []api.Node) {
		for _, x := range l {
			w.oneOf(x, kinds...)
		}
	}
}
