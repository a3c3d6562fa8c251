package show

import "madrigal/api"

// specs makes trees of specifications.
type specs struct{ behaviours }

func (m *specs) specification(s api.Spec) api.Node {
	m.need(areNames(each(s.Procs, func(p api.Proc) string { return p.Name })))
	gates := m.names(s.Gates)
	params := m.list()
	data := m.list(m.data(s.Type))
	main := m.behaviour(s.Main)
	procs := m.list(each(s.Procs, m.process)...)
	// What main ends with is looked for last, where all numbers are known to be right.
	sorts, is := m.ending(s.Main, nil)
	function := m.function(api.Func{Ends: is, Sorts: sorts})
	return m.named(api.NdSpec, "spec", gates, params, function, data, main, procs)
}

// data returns the tree of a data type.
func (m *specs) data(t api.Type) api.Node {
	none := func() api.Node { return m.list() }
	return m.named(api.NdType, "data",
		none(), none(), none(), none(),
		m.names(t.Sig.Sorts), m.list(each(t.Sig.Ops, m.operation)...), m.list(each(t.Eqns, m.equation)...))
}

func (m *specs) sorts(l []int) []api.Node { return each(l, m.sort) }

func (m *specs) operation(o api.Op) api.Node {
	args := m.list(m.sorts(o.Args)...)
	res := m.sort(o.Res)
	n := m.named(api.NdOp, o.Name, args, res)
	n.N = plainOrder
	return n
}

// equation returns the tree of an equation, in a list of its own with its variables.
func (m *specs) equation(e api.Eqn) api.Node {
	m.need(len(e.Vars) <= api.MaxVars)
	vars := m.fresh("x", len(e.Vars))
	decls := m.declarations(vars, e.Vars)
	defer m.vars.bind(vars)()
	conds := m.pairs(e.Conds)
	pair := m.pair(api.Pair{A: e.A, B: e.B})
	eqn := m.node(api.NdEqn, conds, pair)
	sort := at(&m.terms, m.sig.Sorts, m.sortOf(e.A, e.Vars))
	return m.named(api.NdEqns, sort, decls, m.list(eqn))
}

// sortOf returns the sort of a term that has a tree.
func (m *specs) sortOf(t api.Term, vars []int) int {
	if t.Kind == api.KVar {
		return vars[t.N]
	}
	return m.sig.Ops[t.N].Res
}

// process returns the tree of a process, which sees its own gates and variables alone.
func (m *specs) process(p api.Proc) api.Node {
	m.need(p.Gates >= 0 && p.Gates <= api.MaxGates && len(p.Vars) <= api.MaxVars)
	m.gates, m.vars = newScope(nil), newScope(nil)
	gates, vars := m.freshGates("g", p.Gates), m.fresh("p", len(p.Vars))
	m.gates.bind(gates)
	m.vars.bind(vars)
	return m.named(api.NdProc, p.Name,
		m.names(gates), m.declarations(vars, p.Vars), m.function(p.Func), m.behaviour(p.B), m.list())
}

func (m *specs) function(f api.Func) api.Node {
	if !f.Ends {
		return m.node(api.NdFunc)
	}
	n := m.node(api.NdFunc, m.sorts(f.Sorts)...)
	n.N = 1
	return n
}

// ending returns the sorts of values with which the first part that can end a behaviour ends, and whether there is one. It is given the sorts of the variables that are seen.
func (m *specs) ending(b api.Beh, vars []int) ([]int, bool) {
	switch b.Kind {
	case api.BExit:
		return each(b.Offers, func(o api.Offer) int { return m.given(o, vars) }), true
	case api.BCall:
		f := m.procs[b.N].Func
		return f.Sorts, f.Ends
	case api.BEnable:
		return m.ending(b.L[1], with(vars, b.Sorts))
	case api.BPar:
		return m.ending(b.L[0], vars)
	case api.BPre:
		vars = with(vars, inputs(b.Offers))
	case api.BLet, api.BSome:
		vars = with(vars, b.Sorts)
	}
	for _, x := range b.L {
		if sorts, is := m.ending(x, vars); is {
			return sorts, true
		}
	}
	return nil, false
}

// given returns the sort of what an exit gives.
func (m *specs) given(o api.Offer, vars []int) int {
	if o.In {
		return o.Sort
	}
	return m.sortOf(o.T, vars)
}

// inputs returns the sorts of the variables that an action takes.
func inputs(l []api.Offer) []int {
	var sorts []int
	for _, o := range l {
		if o.In {
			sorts = append(sorts, o.Sort)
		}
	}
	return sorts
}

// with returns a list, and another one behind it.
func with(a, b []int) []int {
	l := make([]int, 0, len(a)+len(b))
	return append(append(l, a...), b...)
}
