package show

import "madrigal/api"

// Levels of behaviours: one of a lesser level stands in brackets where one of a greater level has to be.
const (
	levelEnable = iota
	levelDisable
	levelPar
	levelChoice
	levelPrefix
)

// behaviourForm is how the behaviours of a kind are written. What is open goes on as far as it can: it stands in brackets unless it is the last one.
type behaviourForm struct {
	shape
	level  int
	isOpen bool
	write  func(w *writer, n api.Node, last bool)
}

func behaviourForms() map[int]behaviourForm {
	return map[int]behaviourForm{
		api.NdStop:    {shape{elements: 0}, levelPrefix, false, (*writer).stop},
		api.NdExit:    {shape{elements: many}, levelPrefix, false, (*writer).exit},
		api.NdPre:     {shape{elements: 5}, levelPrefix, false, (*writer).action},
		api.NdChoice:  {shape{elements: 2}, levelChoice, false, (*writer).sum},
		api.NdPar:     {shape{elements: 3, hasName: true}, levelPar, false, (*writer).parallel},
		api.NdHide:    {shape{elements: 2}, levelPrefix, true, (*writer).hide},
		api.NdEnable:  {shape{elements: 3}, levelEnable, false, (*writer).enabling},
		api.NdDisable: {shape{elements: 2}, levelDisable, false, (*writer).disabling},
		api.NdGuard:   {shape{elements: 2}, levelPrefix, false, (*writer).guard},
		api.NdLet:     {shape{elements: 2}, levelPrefix, true, (*writer).let},
		api.NdSome:    {shape{elements: 2}, levelPrefix, true, (*writer).some},
		api.NdPick:    {shape{elements: 2}, levelPrefix, true, (*writer).pick},
		api.NdCall:    {shape{elements: 2, hasName: true}, levelPrefix, false, (*writer).call},
		api.NdWait:    {shape{elements: 1, hasNum: true}, levelPrefix, false, (*writer).wait},
	}
}

// behaviour writes a behaviour where one from a level on stands; what follows cannot belong to it, if it is the last one.
func (w *writer) behaviour(n api.Node, least int, last bool) {
	f, is := w.behaviours[n.Kind]
	if !is {
		throw(api.ErrShown)
	}
	f.need(n)
	if f.level >= least && (last || !f.isOpen) {
		f.write(w, n, last)
		return
	}
	w.words("(")
	f.write(w, n, true)
	w.words(")")
}

func (w *writer) stop(api.Node, bool) { w.words("stop") }

func (w *writer) exit(n api.Node, _ bool) {
	w.words("exit")
	w.around("(", n.L, ")", func(l []api.Node) { w.separated(l, api.NdGive, api.NdAny) })
}

func (w *writer) enabling(n api.Node, last bool) {
	w.behaviour(n.L[1], levelDisable, false)
	w.words(">>")
	if vars := elements(n.L[0]); len(vars) > 0 {
		w.words("accept")
		w.separated(vars, api.NdDecl)
		w.words("in")
	}
	w.behaviour(n.L[2], levelEnable, last)
}

func (w *writer) disabling(n api.Node, last bool) {
	w.behaviour(n.L[0], levelPar, false)
	w.words("[>")
	w.behaviour(n.L[1], levelDisable, last)
}

func (w *writer) parallel(n api.Node, last bool) {
	w.behaviour(n.L[1], levelChoice, false)
	gates := elements(n.L[0])
	switch {
	case n.S == "|[":
		w.words("|[")
		w.separated(gates, api.NdName)
		w.words("]|")
	case len(gates) == 0 && (n.S == "||" || n.S == "|||"):
		w.words(n.S)
	default:
		throw(api.ErrShown)
	}
	w.behaviour(n.L[2], levelPar, last)
}

func (w *writer) sum(n api.Node, last bool) {
	w.behaviour(n.L[0], levelPrefix, false)
	w.words("[]")
	w.behaviour(n.L[1], levelChoice, last)
}

func (w *writer) guard(n api.Node, last bool) {
	w.words("[")
	w.separated(elements(n.L[0]), api.NdEq)
	w.words("]", "->")
	w.behaviour(n.L[1], levelPrefix, last)
}

func (w *writer) action(n api.Node, last bool) {
	w.gate(n.L[0])
	offers, conds, windows := elements(n.L[1]), elements(n.L[2]), elements(n.L[3])
	for _, x := range offers {
		if x.Kind == api.NdGive {
			w.words("!")
		}
		w.oneOf(x, api.NdGive, api.NdTake)
	}
	if len(offers) == 0 && len(conds) > 0 || len(windows) > 1 {
		throw(api.ErrShown)
	}
	w.around("[", conds, "]", w.those(api.NdEq))
	w.allOf(api.NdWin)(windows)
	w.words(";")
	w.behaviour(n.L[4], levelPrefix, last)
}

// gate writes the gate of an action, which can be internal.
func (w *writer) gate(n api.Node) {
	if n.Kind == api.NdName && n.S == "i" {
		w.forms[api.NdName].need(n)
		w.words("i")
		return
	}
	w.one(api.NdName, n)
}

func (w *writer) wait(n api.Node, last bool) {
	w.words("wait")
	w.number(n.N)
	w.words(";")
	w.behaviour(n.L[0], levelPrefix, last)
}

func (w *writer) hide(n api.Node, _ bool) { w.within("hide", api.NdName, "in", n) }

func (w *writer) let(n api.Node, _ bool) { w.within("let", api.NdBind, "in", n) }

func (w *writer) some(n api.Node, _ bool) { w.within("choice", api.NdDecl, "[]", n) }

func (w *writer) pick(n api.Node, _ bool) { w.within("choice", api.NdGate, "[]", n) }

// within writes what is seen in a behaviour, between two words or signs, and the behaviour.
func (w *writer) within(begin string, kind int, end string, n api.Node) {
	w.words(begin)
	w.separated(elements(n.L[0]), kind)
	w.words(end)
	w.behaviour(n.L[1], levelEnable, true)
}

func (w *writer) call(n api.Node, _ bool) {
	w.name(n.S)
	w.around("[", elements(n.L[0]), "]", w.those(api.NdName))
	w.around("(", elements(n.L[1]), ")", w.arguments)
}
