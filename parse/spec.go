package parse

import (
	"strings"

	"madrigal/api"
)

// parser reads the rules of the grammar.
type parser struct {
	state
	behaviours map[string]func(*parser) api.Node // by what begins them
	read       func(from, to int) api.Node       // reads the expression whose extent these tokens are
	copied     int                               // nodes of sorts that several operations share
	tooLarge   bool                              // more of them than a tree has: they are left out
}

func newParser(tokens []api.Token, end int) *parser {
	return &parser{
		state: newState(tokens, end, api.ErrSyntax),
		behaviours: map[string]func(*parser) api.Node{
			"a name": (*parser).actionOrCall,
			"[":      (*parser).guard,
			"i":      (*parser).action,
			"wait":   (*parser).wait,
			"hide":   (*parser).hide,
			"let":    (*parser).let,
			"choice": (*parser).choice,
			"stop":   (*parser).stop,
			"exit":   (*parser).exit,
			"(":      (*parser).inBrackets,
		},
	}
}

// whole reads all tokens by one rule.
func (p *parser) whole(rule func(*parser) api.Node) api.Node {
	n := rule(p)
	if !p.ended() {
		p.throw()
	}
	return n
}

// list returns a list that no rule of its own makes: its place is that of its nodes, or, without any, what follows here.
func (p *parser) list(l []api.Node) api.Node {
	n := api.Node{Kind: api.NdList, L: l, At: p.now().At, End: p.now().At}
	if len(l) > 0 {
		n.At, n.End = l[0].At, l[len(l)-1].End
	}
	return n
}

// each reads one or more by a rule, with "," between.
func (p *parser) each(rule func(*parser) api.Node) []api.Node {
	l := []api.Node{rule(p)}
	for p.skip(",") {
		l = append(l, rule(p))
	}
	return l
}

func (p *parser) nameNode() api.Node {
	from := p.at
	s := p.name()
	return p.node(from, api.Node{Kind: api.NdName, S: s})
}

func (p *parser) names() []api.Node { return p.each((*parser).nameNode) }

// namesIfAny reads names, if one stands here.
func (p *parser) namesIfAny() []api.Node {
	if !p.isName() {
		return nil
	}
	return p.names()
}

// section returns the list of what a rule reads behind a word, an empty one without this word.
func (p *parser) section(word string, rule func(*parser) []api.Node) api.Node {
	var l []api.Node
	if p.skip(word) {
		l = rule(p)
	}
	return p.list(l)
}

func (p *parser) specification() api.Node {
	from := p.at
	p.need("specification")
	n := p.head(api.NdSpec)
	var types []api.Node
	for p.is("library") || p.is("type") {
		types = append(types, p.libraryOrType())
	}
	n.L = append(n.L, p.list(types))
	p.need("behaviour")
	n.L = append(n.L, p.behaviour())
	n.L = append(n.L, p.where())
	p.need("endspec")
	return p.node(from, n)
}

func (p *parser) process() api.Node {
	from := p.at
	p.need("process")
	n := p.head(api.NdProc)
	p.need(":=")
	n.L = append(n.L, p.behaviour())
	n.L = append(n.L, p.where())
	p.need("endproc")
	return p.node(from, n)
}

// head reads what processes and specifications begin with: a name, gates, variables, and how they end.
func (p *parser) head(kind int) api.Node {
	n := api.Node{Kind: kind, S: p.name()}
	n.L = append(n.L, p.gates())
	n.L = append(n.L, p.params())
	p.need(":")
	n.L = append(n.L, p.function())
	return n
}

func (p *parser) gates() api.Node { return p.listIn("[", (*parser).names, "]") }

func (p *parser) params() api.Node { return p.listIn("(", (*parser).declarations, ")") }

// listIn returns the list of what stands in brackets, which belong to it, an empty one without them.
func (p *parser) listIn(open string, rule func(*parser) []api.Node, end string) api.Node {
	from := p.at
	var l []api.Node
	if p.skip(open) {
		l = rule(p)
		p.need(end)
	}
	return p.node(from, api.Node{Kind: api.NdList, L: l})
}

func (p *parser) declarations() []api.Node {
	l := p.withSort(api.NdDecl)
	for p.skip(",") {
		l = append(l, p.withSort(api.NdDecl)...)
	}
	return l
}

// withSort reads names and the sort that all of them have.
func (p *parser) withSort(kind int) []api.Node {
	l := p.names()
	p.need(":")
	sort := p.nameNode()
	for i := range l {
		l[i].Kind = kind
		l[i].L = []api.Node{sort}
	}
	return l
}

func (p *parser) function() api.Node {
	from := p.at
	if p.skip("noexit") {
		return p.node(from, api.Node{Kind: api.NdFunc})
	}
	p.need("exit")
	sorts := p.listIn("(", (*parser).names, ")")
	return p.node(from, api.Node{Kind: api.NdFunc, N: 1, L: sorts.L})
}

func (p *parser) where() api.Node {
	from := p.at
	var l []api.Node
	if p.skip("where") {
		for p.is("type") || p.is("process") {
			l = append(l, p.typeOrProcess())
		}
	}
	return p.node(from, api.Node{Kind: api.NdList, L: l})
}

func (p *parser) typeOrProcess() api.Node {
	if p.is("process") {
		return p.process()
	}
	return p.dataType()
}

func (p *parser) libraryOrType() api.Node {
	from := p.at
	if !p.skip("library") {
		return p.dataType()
	}
	l := p.names()
	p.need("endlib")
	return p.node(from, api.Node{Kind: api.NdLib, L: l})
}

func (p *parser) dataType() api.Node {
	from := p.at
	p.need("type")
	s := p.name()
	p.need("is")
	var n api.Node
	switch {
	case p.isName() && p.next().S == "renamedby":
		n = p.renamed()
	case p.isName() && p.next().S == "actualizedby":
		n = p.actualized()
	default:
		n = p.plain()
	}
	n.S = s
	p.need("endtype")
	return p.node(from, n)
}

func (p *parser) plain() api.Node {
	n := api.Node{Kind: api.NdType}
	n.L = append(n.L, p.list(p.namesIfAny()))
	for _, formal := range []string{"formal", ""} {
		n.L = append(n.L, p.section(formal+"sorts", (*parser).names))
		n.L = append(n.L, p.section(formal+"opns", (*parser).operations))
		n.L = append(n.L, p.section(formal+"eqns", (*parser).groups))
	}
	return n
}

func (p *parser) renamed() api.Node {
	n := api.Node{Kind: api.NdRename, L: []api.Node{p.nameNode()}}
	p.need("renamedby")
	return p.renamings(n)
}

func (p *parser) actualized() api.Node {
	n := api.Node{Kind: api.NdActual, L: []api.Node{p.nameNode()}}
	p.need("actualizedby")
	n.L = append(n.L, p.list(p.names()))
	p.need("using")
	return p.renamings(n)
}

// renamings reads which names become others, and adds them to a type.
func (p *parser) renamings(n api.Node) api.Node {
	n.L = append(n.L, p.section("sortnames", (*parser).tos))
	n.L = append(n.L, p.section("opnnames", (*parser).tos))
	return n
}

func (p *parser) tos() []api.Node {
	var l []api.Node
	for p.beginsShape() {
		l = append(l, p.to())
	}
	return l
}

func (p *parser) to() api.Node {
	from := p.at
	first := p.shape()
	p.need("for")
	second := p.shape()
	return p.node(from, api.Node{Kind: api.NdTo, L: []api.Node{first, second}})
}

func (p *parser) beginsShape() bool { return p.isPart() || p.isNumber() || p.is("_") }

// shape reads a Shape, as far as it goes.
func (p *parser) shape() api.Node {
	from := p.at
	if p.isNumber() {
		p.at++
	} else {
		p.skip("_")
		p.take(p.isPart())
		for p.skip("_") && p.isPart() {
			p.at++
		}
	}
	return p.node(from, api.Node{Kind: api.NdName, S: spelled(p.tokens[from:p.at])})
}

func (p *parser) operations() []api.Node {
	var l []api.Node
	for p.beginsShape() {
		l = append(l, p.alike()...)
	}
	return l
}

// alike reads operations that share their sorts.
func (p *parser) alike() []api.Node {
	l := p.each((*parser).operation)
	p.need(":")
	sorts := []api.Node{p.list(p.namesIfAny())}
	p.need("->")
	sorts = append(sorts, p.nameNode())
	for i := range l {
		p.copied += len(sorts[0].L)
		if p.copied > api.MaxTree {
			p.tooLarge = true
			return l
		}
		l[i].L = []api.Node{copyOf(sorts[0]), sorts[1]}
	}
	return l
}

// copyOf returns a list of its own with the same nodes, which have no lists.
func copyOf(list api.Node) api.Node {
	l := make([]api.Node, len(list.L))
	copy(l, list.L)
	list.L = l
	return list
}

// operation reads a Shape, and what stands in brackets behind it.
func (p *parser) operation() api.Node {
	from := p.at
	n := p.shape()
	n.Kind = api.NdOp
	n.N = order(api.MaxPrio, api.SideNone)
	if hasPlaces(n.S) && p.skip("(") {
		prio := p.take(p.isNumber() && p.now().N >= 1 && p.now().N <= api.MaxPrio).N
		n.N = order(prio, p.side())
		p.need(")")
	}
	return p.node(from, n)
}

func (p *parser) side() int {
	switch {
	case p.skip("left"):
		return api.SideLeft
	case p.skip("right"):
		return api.SideRight
	}
	return api.SideNone
}

// hasPlaces reports whether arguments are written within a name.
func hasPlaces(name string) bool { return strings.Contains(name, "_") }

func (p *parser) groups() []api.Node {
	var l []api.Node
	for p.is("forall") || p.is("ofsort") {
		l = append(l, p.group())
	}
	return l
}

// group reads equations of one sort.
func (p *parser) group() api.Node {
	from := p.at
	vars := p.section("forall", (*parser).declarations)
	p.need("ofsort")
	s := p.name()
	var l []api.Node
	for p.beginsExtent() {
		l = append(l, p.equation())
		p.need(";")
	}
	return p.node(from, api.Node{Kind: api.NdEqns, S: s, L: []api.Node{vars, p.list(l)}})
}

func (p *parser) equation() api.Node {
	from := p.at
	conds := p.list(nil)
	l := p.pairs()
	if len(l) > 1 || p.is("=>") {
		p.need("=>")
		conds = p.list(l)
		l = []api.Node{p.pair()}
	}
	return p.node(from, api.Node{Kind: api.NdEqn, L: []api.Node{conds, l[0]}})
}

func (p *parser) pairs() []api.Node { return p.each((*parser).pair) }

// pair reads two expressions that are to be equal.
func (p *parser) pair() api.Node {
	from := p.at
	a := p.expression()
	p.need("=")
	b := p.expression()
	return p.node(from, api.Node{Kind: api.NdEq, L: []api.Node{a, b}})
}

func (p *parser) beginsExtent() bool {
	return p.isPart() || p.isNumber() || p.is("of") || p.is("(")
}

// expression reads an expression: all tokens of its extent.
func (p *parser) expression() api.Node {
	if !p.beginsExtent() {
		p.throw()
	}
	from, open := p.at, 0
	for p.beginsExtent() || open > 0 && (p.is(")") || p.is(",")) {
		switch p.now().S {
		case "(":
			open++
		case ")":
			open--
		}
		p.at++
	}
	return p.read(from, p.at)
}

// passOver returns a node in the place of an expression that is not read yet.
func (p *parser) passOver(from, _ int) api.Node {
	return p.node(from, api.Node{Kind: api.NdApp})
}
