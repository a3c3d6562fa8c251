package parse

import "madrigal/api"

// reader reads expressions by operations.
type reader struct {
	state                             // within one extent
	text         []api.Token          // all tokens
	first, later map[string]operation // by their first parts: those without an argument to the left, and those with one
}

// newReader returns a reader of the tokens of a text.
func newReader(ops []api.Mix, text []api.Token) *reader {
	r := &reader{text: text, first: map[string]operation{}, later: map[string]operation{}}
	for _, x := range ops {
		table := r.first
		if x.Left {
			table = r.later
		}
		table[x.Parts[0]] = operation{x, nameOf(x)}
	}
	return r
}

// read reads the expression whose extent these tokens are.
func (r *reader) read(from, to int) api.Node {
	r.state = newState(r.text[from:to], r.text[to].At, api.ErrExpr)
	n, _ := r.upTo(0)
	if !r.ended() {
		r.throw()
	}
	return n
}

// upTo reads an expression up to a priority, as far as it goes, and returns what its own priority is.
func (r *reader) upTo(least int) (api.Node, int) {
	from := r.at
	n, prio := r.begin(least)
	for {
		if r.skip("of") {
			n = r.node(from, api.Node{Kind: api.NdOf, S: r.name(), L: []api.Node{n}})
			prio = greatest
			continue
		}
		o, is := r.later[r.now().S]
		if !is || o.Prio < least || !o.admits(prio) {
			return n, prio
		}
		n = r.rest(from, o, n)
		prio = o.own()
	}
}

// begin reads what an expression begins with, to which no argument belongs that stands to the left.
func (r *reader) begin(least int) (api.Node, int) {
	from := r.at
	if r.isNumber() {
		r.at++
		return r.node(from, api.Node{Kind: api.NdApp, S: spelled(r.tokens[from:r.at])}), greatest
	}
	if r.skip("(") {
		n, _ := r.upTo(0)
		r.need(")")
		return r.node(from, n), greatest
	}
	o, is := r.first[r.now().S]
	if !is {
		return r.part(), greatest
	}
	if o.own() < least {
		r.throw()
	}
	return r.rest(from, o), o.own()
}

// part reads a part that begins no operation, and what it is applied to.
func (r *reader) part() api.Node {
	from := r.at
	n := api.Node{Kind: api.NdApp, S: r.take(r.isPart()).S}
	if r.skip("(") {
		n.L = r.arguments()
		r.need(")")
	}
	return r.node(from, n)
}

func (r *reader) arguments() []api.Node {
	n, _ := r.upTo(0)
	l := []api.Node{n}
	for r.skip(",") {
		n, _ = r.upTo(0)
		l = append(l, n)
	}
	return l
}

// rest reads an operation from its first part on; what stands to the left of that has been read.
func (r *reader) rest(from int, o operation, left ...api.Node) api.Node {
	l := append([]api.Node{}, left...)
	r.at++
	for _, part := range o.Parts[1:] {
		n, _ := r.upTo(0)
		l = append(l, n)
		r.need(part)
	}
	if o.Right {
		n, _ := r.upTo(o.limit())
		l = append(l, n)
	}
	return r.node(from, api.Node{Kind: api.NdApp, S: o.name, L: l})
}
