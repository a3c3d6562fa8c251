package show

import "madrigal/api"

func forms() map[int]form {
	return map[int]form{
		api.NdSpec:   {shape{elements: 6, hasName: true}, (*writer).specification},
		api.NdProc:   {shape{elements: 5, hasName: true}, (*writer).process},
		api.NdLib:    {shape{elements: many}, (*writer).library},
		api.NdType:   {shape{elements: 7, hasName: true}, (*writer).plain},
		api.NdRename: {shape{elements: 3, hasName: true}, (*writer).renamed},
		api.NdActual: {shape{elements: 4, hasName: true}, (*writer).actualized},
		api.NdName:   {shape{hasName: true}, (*writer).leaf},
		api.NdDecl:   {shape{elements: 1, hasName: true}, (*writer).declaration},
		api.NdFunc:   {shape{elements: many, hasNum: true}, (*writer).function},
		api.NdOp:     {shape{elements: 2, hasName: true, hasNum: true}, (*writer).declared},
		api.NdEqns:   {shape{elements: 2, hasName: true}, (*writer).group},
		api.NdEqn:    {shape{elements: 2}, (*writer).equation},
		api.NdEq:     {shape{elements: 2}, (*writer).pair},
		api.NdTo:     {shape{elements: 2}, (*writer).to},
		api.NdGive:   {shape{elements: 1}, (*writer).given},
		api.NdTake:   {shape{elements: 1, hasName: true}, (*writer).taken},
		api.NdAny:    {shape{elements: 1}, (*writer).anyValue},
		api.NdWin:    {shape{elements: many, hasNum: true}, (*writer).window},
		api.NdBind:   {shape{elements: 2, hasName: true}, (*writer).binding},
		api.NdGate:   {shape{elements: 1, hasName: true}, (*writer).picked},
	}
}

func (w *writer) specification(n api.Node) {
	w.words("specification")
	w.head(n)
	w.allOf(api.NdLib, api.NdType, api.NdRename, api.NdActual)(elements(n.L[3]))
	w.words("behaviour")
	w.body(n.L[4], n.L[5])
	w.words("endspec")
}

func (w *writer) process(n api.Node) {
	w.words("process")
	w.head(n)
	w.words(":=")
	w.body(n.L[3], n.L[4])
	w.words("endproc")
}

// head writes what processes and specifications begin with: a name, gates, variables, and how they end.
func (w *writer) head(n api.Node) {
	w.name(n.S)
	w.around("[", elements(n.L[0]), "]", w.those(api.NdName))
	w.around("(", elements(n.L[1]), ")", w.those(api.NdDecl))
	w.words(":")
	w.one(api.NdFunc, n.L[2])
}

// body writes a behaviour, and the types and processes behind it.
func (w *writer) body(b, where api.Node) {
	w.behaviour(b, levelEnable, true)
	w.behind("where", elements(where), w.allOf(api.NdType, api.NdRename, api.NdActual, api.NdProc))
}

func (w *writer) function(n api.Node) {
	if n.N == 0 {
		w.words("noexit")
		return
	}
	w.words("exit")
	w.around("(", n.L, ")", w.those(api.NdName))
}

func (w *writer) leaf(n api.Node) { w.name(n.S) }

func (w *writer) declaration(n api.Node) {
	w.name(n.S)
	w.words(":")
	w.one(api.NdName, n.L[0])
}

func (w *writer) library(n api.Node) {
	w.words("library")
	w.separated(n.L, api.NdName)
	w.words("endlib")
}

func (w *writer) typeHead(n api.Node) {
	w.words("type")
	w.name(n.S)
	w.words("is")
}

func (w *writer) plain(n api.Node) {
	w.typeHead(n)
	w.namesIfAny(elements(n.L[0]))
	for i, formal := range []string{"formal", ""} {
		w.behind(formal+"sorts", elements(n.L[3*i+1]), w.those(api.NdName))
		w.behind(formal+"opns", elements(n.L[3*i+2]), w.allOf(api.NdOp))
		w.behind(formal+"eqns", elements(n.L[3*i+3]), w.allOf(api.NdEqns))
	}
	w.words("endtype")
}

func (w *writer) renamed(n api.Node) {
	w.typeHead(n)
	w.one(api.NdName, n.L[0])
	w.words("renamedby")
	w.renamings(n.L[1], n.L[2])
}

func (w *writer) actualized(n api.Node) {
	w.typeHead(n)
	w.one(api.NdName, n.L[0])
	w.words("actualizedby")
	w.separated(elements(n.L[1]), api.NdName)
	w.words("using")
	w.renamings(n.L[2], n.L[3])
}

// renamings writes which names become others, and the end of a type.
func (w *writer) renamings(sorts, ops api.Node) {
	w.behind("sortnames", elements(sorts), w.allOf(api.NdTo))
	w.behind("opnnames", elements(ops), w.allOf(api.NdTo))
	w.words("endtype")
}

func (w *writer) to(n api.Node) {
	w.declaredName(n.L[0].S)
	w.words("for")
	w.declaredName(n.L[1].S)
}

// plainOrder is the N of an operation that is declared without a priority and a side.
const plainOrder = 4*api.MaxPrio + api.SideNone

// declared writes an operation as it is declared.
func (w *writer) declared(n api.Node) {
	w.declaredName(n.S)
	if n.N != plainOrder {
		w.order(n.N/4, n.N%4)
	}
	w.words(":")
	w.namesIfAny(elements(n.L[0]))
	w.words("->")
	w.one(api.NdName, n.L[1])
}

// order writes the priority and the side of an operation.
func (w *writer) order(prio, side int) {
	w.words("(")
	w.number(prio)
	switch side {
	case api.SideLeft:
		w.name("left")
	case api.SideRight:
		w.name("right")
	}
	w.words(")")
}

func (w *writer) namesIfAny(l []api.Node) {
	if len(l) > 0 {
		w.separated(l, api.NdName)
	}
}

func (w *writer) group(n api.Node) {
	w.behind("forall", elements(n.L[0]), w.those(api.NdDecl))
	w.words("ofsort")
	w.name(n.S)
	w.allOf(api.NdEqn)(elements(n.L[1]))
}

func (w *writer) equation(n api.Node) {
	if conds := elements(n.L[0]); len(conds) > 0 {
		w.separated(conds, api.NdEq)
		w.words("=>")
	}
	w.one(api.NdEq, n.L[1])
	w.words(";")
}

func (w *writer) pair(n api.Node) {
	w.upTo(0, n.L[0])
	w.words("=")
	w.upTo(0, n.L[1])
}

func (w *writer) given(n api.Node) { w.upTo(0, n.L[0]) }

func (w *writer) taken(n api.Node) {
	w.words("?")
	w.declaration(n)
}

func (w *writer) anyValue(n api.Node) {
	w.words("any")
	w.one(api.NdName, n.L[0])
}

func (w *writer) window(n api.Node) {
	if n.N < 1 || n.N > 3 || len(n.L) != max(1, n.N-1) {
		throw(api.ErrShown)
	}
	w.words("{")
	w.bound(n.L[0])
	if n.N > 1 {
		w.words("..")
	}
	if n.N > 2 {
		w.bound(n.L[1])
	}
	w.words("}")
}

// bound writes a number of a window.
func (w *writer) bound(n api.Node) {
	if n.Kind != api.NdName {
		throw(api.ErrShown)
	}
	w.forms[api.NdName].need(n)
	w.digits(n.S)
}

func (w *writer) binding(n api.Node) {
	w.declaration(n)
	w.words("=")
	w.upTo(0, n.L[1])
}

func (w *writer) picked(n api.Node) {
	w.name(n.S)
	w.words("in", "[")
	w.separated(elements(n.L[0]), api.NdName)
	w.words("]")
}
