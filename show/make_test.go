package show_test

import (
	"math/rand"
	"slices"
	"strings"
	"testing"

	"madrigal/api"
	"madrigal/lex"
	"madrigal/parse"
)

// Nodes.

func app(s string, l ...api.Node) api.Node { return api.Node{Kind: api.NdApp, S: s, L: l} }

func of(s string, n api.Node) api.Node { return api.Node{Kind: api.NdOf, S: s, L: []api.Node{n}} }

func kind(k int, l ...api.Node) api.Node { return api.Node{Kind: k, L: l} }

func named(k int, s string, l ...api.Node) api.Node { return api.Node{Kind: k, S: s, L: l} }

func numbered(k, n int, l ...api.Node) api.Node { return api.Node{Kind: k, N: n, L: l} }

func list(l ...api.Node) api.Node { return kind(api.NdList, l...) }

func name(s string) api.Node { return named(api.NdName, s) }

func names(l ...string) api.Node {
	var out []api.Node
	for _, x := range l {
		out = append(out, name(x))
	}
	return list(out...)
}

func stop() api.Node { return kind(api.NdStop) }

func decl(s, sort string) api.Node { return named(api.NdDecl, s, name(sort)) }

func eq(a, b api.Node) api.Node { return kind(api.NdEq, a, b) }

func action(gate string, behind api.Node) api.Node {
	return kind(api.NdPre, name(gate), list(), list(), list(), behind)
}

func callOf(s string) api.Node { return named(api.NdCall, s, list(), list()) }

func mix(parts string, left, right bool, prio, side int) api.Mix {
	return api.Mix{Parts: strings.Fields(parts), Left: left, Right: right, Prio: prio, Side: side}
}

// table: the operations of the examples of chapter 2.
func table() []api.Mix {
	return []api.Mix{
		mix("+", true, true, 5, api.SideLeft), mix("*", true, true, 6, api.SideLeft), mix("^", true, true, 7, api.SideRight), mix("<", true, true, 3, 0),
		mix("-", false, true, 6, 0), mix("%", true, false, 8, 0), mix("if then else", false, true, 1, 0),
	}
}

// more: operations of all forms, of which no part within one begins another one.
func more() []api.Mix {
	return append(table(), mix("lo hi", false, false, 2, 0), mix("~", true, true, 5, api.SideRight), mix("pre", false, true, 3, api.SideRight), mix("@ by", true, false, 4, api.SideLeft), mix("$", true, true, 7, api.SideLeft), mix("& by", false, true, 5, 0))
}

func nameOf(x api.Mix) string {
	s, err := parse.MixName(x)
	if err != api.OK {
		panic(err)
	}
	return s
}

// declarations is the list of nodes that declare operations.
func declarations(ops []api.Mix) api.Node {
	l := list()
	for _, x := range ops {
		l.L = append(l.L, api.Node{Kind: api.NdOp, S: nameOf(x), N: 4*x.Prio + x.Side, L: []api.Node{list(), name("s")}})
	}
	return l
}

// specOf is the tree of a text with a behaviour, which declares operations.
func specOf(ops []api.Mix, b api.Node) api.Node {
	t := named(api.NdType, "marks", list(), list(), list(), list(), list(), declarations(ops), list())
	return named(api.NdSpec, "x", list(), list(), kind(api.NdFunc), list(t), b, list())
}

// Texts.

func tokensOf(text string) []api.Token {
	l, _, err := lex.Tokens(text)
	if err != api.OK {
		panic(text)
	}
	return l
}

// bare returns tokens without their places.
func bare(l []api.Token) []api.Token {
	out := slices.Clone(l)
	for i := range out {
		out[i].At, out[i].End = 0, 0
	}
	return out
}

func joined(t *testing.T, l []api.Token) string {
	t.Helper()
	s, err := lex.Join(l)
	if err != api.OK {
		t.Fatal(l, err)
	}
	return s
}

// bracketPairs returns where the brackets of a text stand among its tokens.
func bracketPairs(l []api.Token) [][2]int {
	var open []int
	var pairs [][2]int
	for i, x := range l {
		switch x.S {
		case "(":
			open = append(open, i)
		case ")":
			pairs = append(pairs, [2]int{open[len(open)-1], i})
			open = open[:len(open)-1]
		}
	}
	return pairs
}

// without returns tokens but a pair of them.
func without(l []api.Token, pair [2]int) []api.Token {
	return slices.Concat(l[:pair[0]], l[pair[0]+1:pair[1]], l[pair[1]+1:])
}

// Random trees.

type maker struct {
	r   *rand.Rand
	ops []api.Mix
}

func newMaker(seed int64, ops []api.Mix) *maker {
	return &maker{rand.New(rand.NewSource(seed)), ops}
}

func (m *maker) pick(l ...string) string { return l[m.r.Intn(len(l))] }

// some returns from a minimum up to two more of what is made.
func (m *maker) some(least int, made func() api.Node) api.Node {
	l := list()
	for range least + m.r.Intn(3) {
		l.L = append(l.L, made())
	}
	return l
}

func (m *maker) expr(deep int) api.Node {
	if deep == 0 {
		return app(m.pick("a", "b", "x", "0", "12", "then", "#", "+"))
	}
	x := func() api.Node { return m.expr(m.r.Intn(deep)) }
	switch m.r.Intn(8) {
	case 0:
		return app(m.pick("f", "s", "#", "+"), x())
	case 1:
		return app("f", x(), x())
	case 2:
		return of(m.pick("nat", "int"), x())
	}
	o := m.ops[m.r.Intn(len(m.ops))]
	n := app(nameOf(o))
	for range strings.Count(n.S, "_") {
		n.L = append(n.L, x())
	}
	return n
}

func (m *maker) smallExpr() api.Node { return m.expr(m.r.Intn(3)) }

func (m *maker) eq() api.Node { return eq(m.smallExpr(), m.smallExpr()) }

func (m *maker) name() api.Node { return name(m.pick("a", "b", "nat", "left", "x'")) }

func (m *maker) decl() api.Node { return decl(m.pick("x", "y", "z"), m.pick("nat", "int")) }

func (m *maker) give() api.Node { return kind(api.NdGive, m.smallExpr()) }

func (m *maker) take() api.Node { return named(api.NdTake, m.pick("x", "y"), m.name()) }

func (m *maker) window() api.Node {
	l := list()
	switch m.r.Intn(6) {
	case 0:
		l.L = []api.Node{numbered(api.NdWin, 1, name("3"))}
	case 1:
		l.L = []api.Node{numbered(api.NdWin, 2, name("0"))}
	case 2:
		l.L = []api.Node{numbered(api.NdWin, 3, name("2"), name("2147483647"))}
	}
	return l
}

func (m *maker) action(behind api.Node) api.Node {
	offers := m.some(0, func() api.Node {
		if m.r.Intn(2) == 0 {
			return m.give()
		}
		return m.take()
	})
	conds := list()
	if len(offers.L) > 0 {
		conds = m.some(0, m.eq)
	}
	return kind(api.NdPre, name(m.pick("g", "i")), offers, conds, m.window(), behind)
}

func (m *maker) beh(deep int) api.Node {
	if deep == 0 {
		return m.leaf()
	}
	x := func() api.Node { return m.beh(m.r.Intn(deep)) }
	switch m.r.Intn(14) {
	case 0:
		return m.leaf()
	case 1, 2:
		return m.action(x())
	case 3:
		return kind(api.NdChoice, x(), x())
	case 4:
		return named(api.NdPar, m.pick("||", "|||"), list(), x(), x())
	case 5:
		return named(api.NdPar, "|[", m.some(1, m.name), x(), x())
	case 6:
		return kind(api.NdHide, m.some(1, m.name), x())
	case 7:
		return kind(api.NdEnable, m.some(0, m.decl), x(), x())
	case 8:
		return kind(api.NdDisable, x(), x())
	case 9:
		return kind(api.NdGuard, m.some(1, m.eq), x())
	case 10:
		bind := func() api.Node { return named(api.NdBind, m.pick("x", "y"), m.name(), m.smallExpr()) }
		return kind(api.NdLet, m.some(1, bind), x())
	case 11:
		return kind(api.NdSome, m.some(1, m.decl), x())
	case 12:
		gate := func() api.Node { return named(api.NdGate, m.pick("g", "h"), m.some(1, m.name)) }
		return kind(api.NdPick, m.some(1, gate), x())
	}
	return numbered(api.NdWait, m.r.Intn(12), x())
}

func (m *maker) leaf() api.Node {
	switch m.r.Intn(3) {
	case 0:
		return stop()
	case 1:
		return named(api.NdCall, m.pick("P", "Q"), m.some(0, m.name), m.some(0, m.smallExpr))
	}
	n := m.some(0, func() api.Node {
		if m.r.Intn(2) == 0 {
			return m.give()
		}
		return kind(api.NdAny, m.name())
	})
	n.Kind = api.NdExit
	return n
}

func (m *maker) function() api.Node {
	if m.r.Intn(2) == 0 {
		return kind(api.NdFunc)
	}
	return numbered(api.NdFunc, 1, m.some(0, m.name).L...)
}

// op declares an operation that is not written around its arguments.
func (m *maker) op() api.Node {
	return api.Node{Kind: api.NdOp, S: m.pick("f", "0", "7", "#", "c"), N: 36, L: []api.Node{m.some(0, m.name), m.name()}}
}

func (m *maker) eqns() api.Node {
	eqn := func() api.Node { return kind(api.NdEqn, m.some(0, m.eq), m.eq()) }
	return named(api.NdEqns, "nat", m.some(0, m.decl), m.some(0, eqn))
}

func (m *maker) dataType() api.Node {
	to := func() api.Node {
		return kind(api.NdTo, name(m.pick("a", "7", "_+_", "_*", "if_then")), name(m.pick("b", "0", "#_", "_x_y")))
	}
	switch m.r.Intn(4) {
	case 0:
		return named(api.NdRename, "t", m.name(), m.some(0, to), m.some(0, to))
	case 1:
		return named(api.NdActual, "t", m.name(), m.some(1, m.name), m.some(0, to), m.some(0, to))
	}
	return named(api.NdType, "t", m.some(0, m.name), m.some(0, m.name), m.some(0, m.op), m.some(0, m.eqns), m.some(0, m.name), m.some(0, m.op), m.some(0, m.eqns))
}

func (m *maker) process(deep int) api.Node {
	return named(api.NdProc, m.pick("P", "Q"), m.some(0, m.name), m.some(0, m.decl), m.function(), m.beh(2), m.where(deep))
}

func (m *maker) where(deep int) api.Node {
	return m.some(0, func() api.Node {
		if deep == 0 || m.r.Intn(2) == 0 {
			return m.dataType()
		}
		return m.process(deep - 1)
	})
}

// text returns the tree of a random text.
func (m *maker) text() api.Node {
	for {
		types := m.some(0, func() api.Node {
			if m.r.Intn(3) == 0 {
				n := m.some(1, m.name)
				n.Kind = api.NdLib
				return n
			}
			return m.dataType()
		})
		n := specOf(m.ops, m.beh(3))
		n.L[0], n.L[1], n.L[2], n.L[5] = m.some(0, m.name), m.some(0, m.decl), m.function(), m.where(2)
		n.L[3].L = append(n.L[3].L, types.L...)
		// Renamings can run into each other: no text has such a tree.
		if parse.Check(n) == api.OK {
			return n
		}
	}
}

// all calls f with all nodes of a tree.
func all(n api.Node, f func(api.Node)) {
	f(n)
	for _, x := range n.L {
		all(x, f)
	}
}

// nodeOf returns the i-th node of a tree.
func nodeOf(n *api.Node, i int) *api.Node {
	if i == 0 {
		return n
	}
	i--
	for k := range n.L {
		count, _ := parse.Size(n.L[k])
		if i < count {
			return nodeOf(&n.L[k], i)
		}
		i -= count
	}
	return nil
}
