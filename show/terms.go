package show

import "madrigal/api"

// nodes makes nodes, no more than a tree has.
type nodes struct{ made int }

func (m *nodes) named(kind int, s string, l ...api.Node) api.Node {
	m.made++
	if m.made > api.MaxTree {
		throw(api.ErrLimit)
	}
	return api.Node{Kind: kind, S: s, L: l}
}

func (m *nodes) node(kind int, l ...api.Node) api.Node { return m.named(kind, "", l...) }

func (m *nodes) list(l ...api.Node) api.Node { return m.node(api.NdList, l...) }

func (m *nodes) name(s string) api.Node { return m.named(api.NdName, s) }

// names returns the list of nodes with these names.
func (m *nodes) names(l []string) api.Node { return m.list(each(l, m.name)...) }

// each returns what becomes of each element.
func each[T, U any](l []T, f func(T) U) []U {
	var out []U
	for _, x := range l {
		out = append(out, f(x))
	}
	return out
}

// terms makes trees of terms.
type terms struct {
	nodes
	opNames
	sig   api.Sig
	vars  scope
	wrong api.Errno // what is thrown where something cannot be written
}

func newTerms(s api.Sig, vars []string, wrong api.Errno) (*terms, api.Errno) {
	o, err := readable(s)
	if err != api.OK {
		return nil, err
	}
	if !o.areVariables(vars) {
		return nil, api.ErrNames
	}
	return &terms{opNames: o, sig: s, vars: newScope(vars), wrong: wrong}, api.OK
}

// need throws unless something can be written.
func (m *terms) need(can bool) {
	if !can {
		throw(m.wrong)
	}
}

// at returns the element with a number, which has to be there.
func at[T any](m *terms, l []T, number int) T {
	m.need(number >= 0 && number < len(l))
	return l[number]
}

func (m *terms) sort(number int) api.Node { return m.name(at(m, m.sig.Sorts, number)) }

func (m *terms) values(l []api.Term) []api.Node { return each(l, m.term) }

func (m *terms) term(t api.Term) api.Node {
	if t.Kind == api.KVar {
		m.need(len(t.L) == 0)
		return m.named(api.NdApp, at(m, m.vars.names, t.N))
	}
	m.need(t.Kind == api.KOp)
	o := at(m, m.sig.Ops, t.N)
	m.need(len(t.L) == len(o.Args))
	n := m.named(api.NdApp, o.Name, m.values(t.L)...)
	if m.count[spelling{o.Name, len(o.Args)}] > 1 {
		n = m.named(api.NdOf, at(m, m.sig.Sorts, o.Res), n)
	}
	return n
}

// pairs returns the list of pairs of terms that are to be equal.
func (m *terms) pairs(l []api.Pair) api.Node { return m.list(each(l, m.pair)...) }

func (m *terms) pair(p api.Pair) api.Node {
	a := m.term(p.A)
	b := m.term(p.B)
	return m.node(api.NdEq, a, b)
}

// gateToken returns the token of a label's gate.
func gateToken(gates []string, gate int) (api.Token, bool) {
	switch {
	case gate == api.GInt:
		return api.Token{Kind: api.TkKey, S: "i"}, true
	case gate == api.GExit:
		return api.Token{Kind: api.TkKey, S: "exit"}, true
	case gate == api.GTick:
		return nameToken("tick"), true
	case gate >= 0 && gate < len(gates):
		return nameToken(gates[gate]), true
	}
	return api.Token{}, false
}
