package parse

import "madrigal/api"

func (p *parser) behaviour() api.Node {
	from := p.at
	first := p.disabling()
	if !p.skip(">>") {
		return first
	}
	vars := p.section("accept", (*parser).declarationsIn)
	second := p.behaviour()
	return p.node(from, api.Node{Kind: api.NdEnable, L: []api.Node{vars, first, second}})
}

func (p *parser) declarationsIn() []api.Node {
	l := p.declarations()
	p.need("in")
	return l
}

func (p *parser) disabling() api.Node {
	from := p.at
	first := p.parallel()
	if !p.skip("[>") {
		return first
	}
	second := p.disabling()
	return p.node(from, api.Node{Kind: api.NdDisable, L: []api.Node{first, second}})
}

func (p *parser) parallel() api.Node {
	from := p.at
	first := p.sum()
	sign := p.now().S
	var gates []api.Node
	switch {
	case p.skip("|||"), p.skip("||"):
	case p.skip("|["):
		gates = p.names()
		p.need("]|")
	default:
		return first
	}
	list := p.list(gates)
	second := p.parallel()
	return p.node(from, api.Node{Kind: api.NdPar, S: sign, L: []api.Node{list, first, second}})
}

func (p *parser) sum() api.Node {
	from := p.at
	first := p.prefix()
	if !p.skip("[]") {
		return first
	}
	second := p.sum()
	return p.node(from, api.Node{Kind: api.NdChoice, L: []api.Node{first, second}})
}

// prefix reads a behaviour that no operator stands between the parts of.
func (p *parser) prefix() api.Node {
	begin := p.now().S
	if p.isName() {
		begin = "a name"
	}
	rule := p.behaviours[begin]
	if rule == nil {
		p.throw()
	}
	return rule(p)
}

func (p *parser) guard() api.Node {
	from := p.at
	conds := p.conditions()
	p.need("->")
	behind := p.prefix()
	return p.node(from, api.Node{Kind: api.NdGuard, L: []api.Node{conds, behind}})
}

// conditions reads conditions in brackets.
func (p *parser) conditions() api.Node {
	p.need("[")
	l := p.pairs()
	p.need("]")
	return p.list(l)
}

func (p *parser) actionOrCall() api.Node {
	switch p.next().S {
	case "!", "?", "{", ";":
		return p.action()
	}
	return p.call()
}

func (p *parser) action() api.Node {
	from := p.at
	s := p.now().S
	p.at++
	gate := p.node(from, api.Node{Kind: api.NdName, S: s})
	offers := p.offers()
	conds := p.list(nil)
	if len(offers.L) > 0 && p.is("[") {
		conds = p.conditions()
	}
	window := p.list(p.windows())
	p.need(";")
	behind := p.prefix()
	return p.node(from, api.Node{Kind: api.NdPre, L: []api.Node{gate, offers, conds, window, behind}})
}

func (p *parser) offers() api.Node {
	var l []api.Node
	for {
		from := p.at
		switch {
		case p.skip("!"):
			x := p.expression()
			l = append(l, p.node(from, api.Node{Kind: api.NdGive, L: []api.Node{x}}))
		case p.skip("?"):
			l = append(l, p.withSort(api.NdTake)...)
		default:
			return p.list(l)
		}
	}
}

// windows reads a window, if there is one.
func (p *parser) windows() []api.Node {
	from := p.at
	if !p.skip("{") {
		return nil
	}
	n := api.Node{Kind: api.NdWin, N: 1, L: []api.Node{p.numeral()}}
	if p.skip("..") {
		n.N = 2
		if p.isNumber() {
			n.N = 3
			n.L = append(n.L, p.numeral())
		}
	}
	p.need("}")
	return []api.Node{p.node(from, n)}
}

func (p *parser) numeral() api.Node {
	from := p.at
	p.number()
	return p.node(from, api.Node{Kind: api.NdName, S: spelled(p.tokens[from:p.at])})
}

func (p *parser) wait() api.Node {
	from := p.at
	p.need("wait")
	n := p.number()
	p.need(";")
	behind := p.prefix()
	return p.node(from, api.Node{Kind: api.NdWait, N: n, L: []api.Node{behind}})
}

func (p *parser) hide() api.Node {
	from := p.at
	p.need("hide")
	return p.within(from, api.NdHide, p.names(), "in")
}

func (p *parser) let() api.Node {
	from := p.at
	p.need("let")
	return p.within(from, api.NdLet, p.each((*parser).binding), "in")
}

// within reads a word or sign, and the behaviour behind it, in which what has been read is seen.
func (p *parser) within(from, kind int, seen []api.Node, begin string) api.Node {
	list := p.list(seen)
	p.need(begin)
	inner := p.behaviour()
	return p.node(from, api.Node{Kind: kind, L: []api.Node{list, inner}})
}

func (p *parser) binding() api.Node {
	from := p.at
	s := p.name()
	p.need(":")
	sort := p.nameNode()
	p.need("=")
	x := p.expression()
	return p.node(from, api.Node{Kind: api.NdBind, S: s, L: []api.Node{sort, x}})
}

func (p *parser) choice() api.Node {
	from := p.at
	p.need("choice")
	if p.isName() && p.next().S == "in" {
		return p.within(from, api.NdPick, p.each((*parser).picked), "[]")
	}
	return p.within(from, api.NdSome, p.declarations(), "[]")
}

// picked reads a name of a gate, and the gates that it can be.
func (p *parser) picked() api.Node {
	from := p.at
	s := p.name()
	p.need("in")
	p.need("[")
	gates := p.list(p.names())
	p.need("]")
	return p.node(from, api.Node{Kind: api.NdGate, S: s, L: []api.Node{gates}})
}

func (p *parser) stop() api.Node {
	from := p.at
	p.need("stop")
	return p.node(from, api.Node{Kind: api.NdStop})
}

func (p *parser) exit() api.Node {
	from := p.at
	p.need("exit")
	var l []api.Node
	if p.skip("(") {
		l = p.each((*parser).given)
		p.need(")")
	}
	return p.node(from, api.Node{Kind: api.NdExit, L: l})
}

// given reads what an exit gives: an expression, or any value of a sort.
func (p *parser) given() api.Node {
	from := p.at
	if p.skip("any") {
		sort := p.nameNode()
		return p.node(from, api.Node{Kind: api.NdAny, L: []api.Node{sort}})
	}
	x := p.expression()
	return p.node(from, api.Node{Kind: api.NdGive, L: []api.Node{x}})
}

func (p *parser) call() api.Node {
	from := p.at
	s := p.name()
	gates := p.gates()
	values := p.list(nil)
	if p.skip("(") {
		values = p.list(p.each((*parser).expression))
		p.need(")")
	}
	return p.node(from, api.Node{Kind: api.NdCall, S: s, L: []api.Node{gates, values}})
}

func (p *parser) inBrackets() api.Node {
	from := p.at
	p.need("(")
	n := p.behaviour()
	p.need(")")
	return p.node(from, n)
}
