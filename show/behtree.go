package show

import (
	"strconv"

	"madrigal/api"
)

// behaviours makes trees of behaviours.
type behaviours struct {
	terms
	gates scope
	procs []api.Proc
	rules map[int]rule // by kinds
}

// rule is how the tree of a behaviour of a kind is made, with so many elements.
type rule struct {
	elements int
	made     func(*behaviours, api.Beh) api.Node
}

func newBehaviours(s api.Spec, gates, vars []string, wrong api.Errno) (*behaviours, api.Errno) {
	m, err := newTerms(s.Type.Sig, vars, wrong)
	if err != api.OK {
		return nil, err
	}
	if !areGates(gates) {
		return nil, api.ErrNames
	}
	return &behaviours{terms: *m, gates: newScope(gates), procs: s.Procs, rules: rules()}, api.OK
}

func rules() map[int]rule {
	return map[int]rule{
		api.BStop:    {0, (*behaviours).stop},
		api.BExit:    {0, (*behaviours).exit},
		api.BPre:     {1, (*behaviours).action},
		api.BChoice:  {2, (*behaviours).choice},
		api.BPar:     {2, (*behaviours).parallel},
		api.BHide:    {1, (*behaviours).hide},
		api.BEnable:  {2, (*behaviours).enabling},
		api.BDisable: {2, (*behaviours).disabling},
		api.BGuard:   {1, (*behaviours).guard},
		api.BLet:     {1, (*behaviours).let},
		api.BSome:    {1, (*behaviours).some},
		api.BCall:    {0, (*behaviours).call},
		api.BWait:    {1, (*behaviours).wait},
	}
}

func (m *behaviours) behaviour(b api.Beh) api.Node {
	r, is := m.rules[b.Kind]
	m.need(is && len(b.L) == r.elements)
	return r.made(m, b)
}

// fresh returns names of new variables.
func (m *behaviours) fresh(letter string, count int) []string {
	return numbered(letter, len(m.vars.names), count, func(s string) bool { return m.isFree(s) && !m.vars.has[s] })
}

// freshGates returns names of new gates.
func (m *behaviours) freshGates(letter string, count int) []string {
	return numbered(letter, len(m.gates.names), count, func(s string) bool { return !m.gates.has[s] })
}

// numbered returns names of so many numbers.
func numbered(letter string, from, count int, isFree func(string) bool) []string {
	name := namer(letter, isFree)
	var l []string
	for i := range count {
		l = append(l, name(from+i))
	}
	return l
}

// declarations returns the list of variables with their sorts.
func (m *behaviours) declarations(names []string, sorts []int) api.Node {
	var l []api.Node
	for i, x := range names {
		sort := m.sort(sorts[i])
		l = append(l, m.named(api.NdDecl, x, sort))
	}
	return m.list(l...)
}

// within returns the tree of a behaviour that sees these new variables.
func (m *behaviours) within(vars []string, b api.Beh) api.Node {
	defer m.vars.bind(vars)()
	return m.behaviour(b)
}

func (m *behaviours) stop(api.Beh) api.Node { return m.node(api.NdStop) }

func (m *behaviours) exit(b api.Beh) api.Node {
	return m.node(api.NdExit, each(b.Offers, func(o api.Offer) api.Node {
		if o.In {
			return m.node(api.NdAny, m.sort(o.Sort))
		}
		return m.node(api.NdGive, m.term(o.T))
	})...)
}

func (m *behaviours) action(b api.Beh) api.Node {
	// Conditions without an offer would be read as gates of a call.
	m.need(len(b.Offers) > 0 || len(b.Conds) == 0)
	gate := m.gate(b.Gate)
	offers, vars := m.offers(b.Offers)
	defer m.vars.bind(vars)()
	conds := m.pairs(b.Conds)
	window := m.window(b.Lo, b.Hi)
	behind := m.behaviour(b.L[0])
	return m.node(api.NdPre, gate, offers, conds, window, behind)
}

// gate returns the name of the gate of an action, which can be internal.
func (m *behaviours) gate(number int) api.Node {
	if number == api.GInt {
		return m.name("i")
	}
	return m.seenGate(number)
}

func (m *behaviours) seenGate(number int) api.Node {
	return m.name(at(&m.terms, m.gates.names, number))
}

// offers returns the list of offers, and the names of the new variables.
func (m *behaviours) offers(l []api.Offer) (api.Node, []string) {
	inputs := 0
	for _, o := range l {
		if o.In {
			inputs++
		}
	}
	vars := m.fresh("v", inputs)
	left := vars
	return m.list(each(l, func(o api.Offer) api.Node {
		if !o.In {
			return m.node(api.NdGive, m.term(o.T))
		}
		name := left[0]
		left = left[1:]
		return m.named(api.NdTake, name, m.sort(o.Sort))
	})...), vars
}

// window returns the list with the window of an action, which is empty if it has none.
func (m *behaviours) window(lo, hi int) api.Node {
	if lo == 0 && hi == -1 {
		return m.list()
	}
	m.need(isTime(lo) && (hi == -1 || isTime(hi)))
	n, bounds := 3, []int{lo, hi}
	switch hi {
	case lo:
		n, bounds = 1, bounds[:1]
	case -1:
		n, bounds = 2, bounds[:1]
	}
	win := m.node(api.NdWin, each(bounds, func(x int) api.Node { return m.name(strconv.Itoa(x)) })...)
	win.N = n
	return m.list(win)
}

// isTime reports whether a number can stand in a text.
func isTime(n int) bool { return n >= 0 && n <= api.MaxNum }

func (m *behaviours) both(kind int, b api.Beh) api.Node {
	first := m.behaviour(b.L[0])
	second := m.behaviour(b.L[1])
	return m.node(kind, first, second)
}

func (m *behaviours) choice(b api.Beh) api.Node { return m.both(api.NdChoice, b) }

func (m *behaviours) disabling(b api.Beh) api.Node { return m.both(api.NdDisable, b) }

func (m *behaviours) parallel(b api.Beh) api.Node {
	sign := "|||"
	if len(b.Gates) > 0 {
		sign = "|["
	}
	gates := m.list(each(b.Gates, m.seenGate)...)
	first := m.behaviour(b.L[0])
	second := m.behaviour(b.L[1])
	return m.named(api.NdPar, sign, gates, first, second)
}

func (m *behaviours) hide(b api.Beh) api.Node {
	m.need(b.N >= 1 && b.N <= api.MaxGates)
	fresh := m.freshGates("h", b.N)
	gates := m.names(fresh)
	defer m.gates.bind(fresh)()
	inner := m.behaviour(b.L[0])
	return m.node(api.NdHide, gates, inner)
}

func (m *behaviours) enabling(b api.Beh) api.Node {
	first := m.behaviour(b.L[0])
	vars := m.fresh("v", len(b.Sorts))
	decls := m.declarations(vars, b.Sorts)
	second := m.within(vars, b.L[1])
	return m.node(api.NdEnable, decls, first, second)
}

func (m *behaviours) guard(b api.Beh) api.Node {
	m.need(len(b.Conds) > 0)
	conds := m.pairs(b.Conds)
	behind := m.behaviour(b.L[0])
	return m.node(api.NdGuard, conds, behind)
}

func (m *behaviours) let(b api.Beh) api.Node {
	m.need(len(b.Sorts) > 0 && len(b.T) == len(b.Sorts))
	vars := m.fresh("v", len(b.Sorts))
	var l []api.Node
	for i, x := range vars {
		sort := m.sort(b.Sorts[i])
		value := m.term(b.T[i])
		l = append(l, m.named(api.NdBind, x, sort, value))
	}
	binds := m.list(l...)
	inner := m.within(vars, b.L[0])
	return m.node(api.NdLet, binds, inner)
}

func (m *behaviours) some(b api.Beh) api.Node {
	m.need(len(b.Sorts) > 0)
	vars := m.fresh("v", len(b.Sorts))
	decls := m.declarations(vars, b.Sorts)
	inner := m.within(vars, b.L[0])
	return m.node(api.NdSome, decls, inner)
}

func (m *behaviours) call(b api.Beh) api.Node {
	name := at(&m.terms, m.procs, b.N).Name
	m.need(areNames([]string{name}))
	gates := m.list(each(b.Gates, m.seenGate)...)
	values := m.list(m.values(b.T)...)
	return m.named(api.NdCall, name, gates, values)
}

func (m *behaviours) wait(b api.Beh) api.Node {
	m.need(isTime(b.Lo))
	n := m.node(api.NdWait, m.behaviour(b.L[0]))
	n.N = b.Lo
	return n
}
