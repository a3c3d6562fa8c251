package parse

import "madrigal/api"

// Levels of behaviours: one of a lesser level stands in brackets within one of a greater level.
const (
	levelEnable = iota
	levelDisable
	levelPar
	levelChoice
	levelPrefix
)

func levelOf(n api.Node) int {
	switch n.Kind {
	case api.NdEnable:
		return levelEnable
	case api.NdDisable:
		return levelDisable
	case api.NdPar:
		return levelPar
	case api.NdChoice:
		return levelChoice
	}
	return levelPrefix
}

// rightmost returns the behaviour that ends where one ends, the least level that it has without brackets, and whether there is one. (Ahead of an operator NdEnable stands in brackets.)
func rightmost(n api.Node) (api.Node, int, bool) {
	switch n.Kind {
	case api.NdDisable:
		return element(n, 1), levelDisable, true
	case api.NdPar:
		return element(n, 2), levelPar, true
	case api.NdChoice:
		return element(n, 1), levelChoice, true
	case api.NdGuard:
		return element(n, 1), levelPrefix, true
	case api.NdPre:
		return element(n, 4), levelPrefix, true
	case api.NdWait:
		return element(n, 0), levelPrefix, true
	}
	return api.Node{}, 0, false
}

// isOpen reports whether a behaviour without brackets takes each operator that follows.
func isOpen(n api.Node) bool {
	for {
		switch n.Kind {
		case api.NdHide, api.NdLet, api.NdSome, api.NdPick:
			return true
		}
		right, least, is := rightmost(n)
		if !is || levelOf(right) < least {
			return false
		}
		n = right
	}
}

// behaviour writes a behaviour where one from a level on is read; an operator follows, unless it is the last one. (Brackets that can stand further to the left or to the right stand to the left, where they can spare a blank.)
func (w *writer) behaviour(n api.Node, least int, last bool) {
	rule := w.behaviours[n.Kind]
	if rule == nil {
		panic(unwritable{})
	}
	if levelOf(n) >= least && (last || !isOpen(n)) {
		rule(w, n, last)
		return
	}
	w.words("(")
	rule(w, n, true)
	w.words(")")
}

func (w *writer) enabling(n api.Node, last bool) {
	w.behaviour(element(n, 1), levelDisable, false)
	w.words(">>")
	if vars := element(n, 0).L; len(vars) > 0 {
		w.words("accept")
		w.declarations(vars)
		w.words("in")
	}
	w.behaviour(element(n, 2), levelEnable, last)
}

func (w *writer) disabling(n api.Node, last bool) {
	w.behaviour(element(n, 0), levelPar, false)
	w.words("[>")
	w.behaviour(element(n, 1), levelDisable, last)
}

func (w *writer) parallel(n api.Node, last bool) {
	w.behaviour(element(n, 1), levelChoice, false)
	switch n.S {
	case "|[":
		w.words("|[")
		w.separated(element(n, 0).L)
		w.words("]|")
	case "||", "|||":
		w.words(n.S)
	default:
		panic(unwritable{})
	}
	w.behaviour(element(n, 2), levelPar, last)
}

func (w *writer) sum(n api.Node, last bool) {
	w.behaviour(element(n, 0), levelPrefix, false)
	w.words("[]")
	w.behaviour(element(n, 1), levelChoice, last)
}

func (w *writer) guard(n api.Node, last bool) {
	w.words("[")
	w.separated(element(n, 0).L)
	w.words("]", "->")
	w.behaviour(element(n, 1), levelPrefix, last)
}

func (w *writer) action(n api.Node, last bool) {
	if gate := element(n, 0).S; gate == "i" {
		w.words("i")
	} else {
		w.name(gate)
	}
	w.offers(element(n, 1).L)
	w.around("[", element(n, 2).L, "]", w.separated)
	for _, x := range element(n, 3).L {
		w.window(x)
	}
	w.words(";")
	w.behaviour(element(n, 4), levelPrefix, last)
}

func (w *writer) offers(l []api.Node) {
	for i, x := range l {
		switch {
		case x.Kind == api.NdGive:
			w.words("!")
			w.given(x)
			continue
		case isShared(l, i-1):
			w.words(",")
		default:
			w.words("?")
		}
		w.name(x.S)
		if !isShared(l, i) {
			w.words(":")
			w.one(element(x, 0))
		}
	}
}

func (w *writer) window(n api.Node) {
	w.words("{")
	w.one(element(n, 0))
	if n.N > 1 {
		w.words("..")
	}
	if n.N > 2 {
		w.one(element(n, 1))
	}
	w.words("}")
}

func (w *writer) wait(n api.Node, last bool) {
	w.words("wait")
	w.put(api.Token{Kind: api.TkNum, N: n.N})
	w.words(";")
	w.behaviour(element(n, 0), levelPrefix, last)
}

func (w *writer) hide(n api.Node, _ bool) { w.within("hide", w.separated, "in", n) }

func (w *writer) let(n api.Node, _ bool) { w.within("let", w.separated, "in", n) }

func (w *writer) some(n api.Node, _ bool) { w.within("choice", w.declarations, "[]", n) }

func (w *writer) pick(n api.Node, _ bool) { w.within("choice", w.separated, "[]", n) }

// within writes what is seen in a behaviour, between two words or signs, and the behaviour.
func (w *writer) within(begin string, write func([]api.Node), end string, n api.Node) {
	w.words(begin)
	write(element(n, 0).L)
	w.words(end)
	w.behaviour(element(n, 1), levelEnable, true)
}

func (w *writer) binding(n api.Node) {
	w.name(n.S)
	w.words(":")
	w.one(element(n, 0))
	w.words("=")
	w.one(element(n, 1))
}

func (w *writer) picked(n api.Node) {
	w.name(n.S)
	w.words("in", "[")
	w.separated(element(n, 0).L)
	w.words("]")
}

func (w *writer) stop(api.Node, bool) { w.words("stop") }

func (w *writer) exit(n api.Node, _ bool) {
	w.words("exit")
	w.around("(", n.L, ")", w.separated)
}

// given writes a value, or that it is any one.
func (w *writer) given(n api.Node) {
	if n.Kind == api.NdAny {
		w.words("any")
	}
	w.one(element(n, 0))
}

func (w *writer) call(n api.Node, _ bool) {
	w.name(n.S)
	w.around("[", element(n, 0).L, "]", w.separated)
	w.around("(", element(n, 1).L, ")", w.separated)
}
