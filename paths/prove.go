package paths

import "madrigal/api"

// duo is a part, and one than which it is greater; or two equal ones, of which the empty proof tells, if there is no a.
type duo struct{ a, b *part }

// prover finds least proofs (of multisets, those with as many pairs as can be): the first one that comes to mind can have 2 to the power of the depth of terms nodes, where another one has a few.
type prover struct {
	*comparison
	sizes map[pair]int // how many nodes proofs have; maxProof + 1, if they are more
}

// way is a proof without its L, and what L has proofs of.
type way struct {
	proof api.PathProof
	needs []duo
}

// size returns how many nodes the proof has that a is greater than b.
func (p *prover) size(d duo) int {
	if d.a == nil {
		return 1
	}
	key := pair{d.a.class, d.b.class}
	if n, met := p.sizes[key]; met {
		return n
	}
	n := p.total(p.best(d.a, d.b))
	p.sizes[key] = n
	return n
}

// total returns how many nodes a proof has.
func (p *prover) total(w way) int {
	n := 1
	for _, d := range w.needs {
		n += p.size(d)
	}
	return min(n, maxProof+1)
}

// best returns the last step of the least proof that a is greater than b.
func (p *prover) best(a, b *part) way {
	rules := [...]func(p *prover, a, b *part) (way, bool){(*prover).sub, (*prover).place, (*prover).lex, (*prover).multi}
	var out way
	least := 0
	for _, rule := range rules {
		if w, is := rule(p, a, b); is {
			if n := p.total(w); least == 0 || n < least {
				out, least = w, n
			}
		}
	}
	return out
}

// proof returns the proof that a is greater than b.
func (p *prover) proof(d duo) api.PathProof {
	if d.a == nil {
		return api.PathProof{}
	}
	w := p.best(d.a, d.b)
	out := w.proof
	if len(w.needs) > 0 {
		out.L = make([]api.PathProof, len(w.needs))
	}
	for i, x := range w.needs {
		out.L[i] = p.proof(x)
	}
	return out
}

func (p *prover) sub(a, b *part) (out way, is bool) {
	for i, x := range a.l {
		w := way{proof: api.PathProof{Rule: api.PathSub, At: i}}
		switch {
		case x.class == b.class:
			return w, true
		case p.greater(x, b):
			w.needs = []duo{{x, b}}
			if !is || p.total(w) < p.total(out) {
				out, is = w, true
			}
		}
	}
	return out, is
}

func (p *prover) place(a, b *part) (way, bool) {
	if !p.byPlace(a, b) {
		return way{}, false
	}
	return way{proof: api.PathProof{Rule: api.PathPlace}, needs: aboveEach(nil, a, b)}, true
}

// aboveEach adds to l that a is greater than each argument of b.
func aboveEach(l []duo, a, b *part) []duo {
	for _, y := range b.l {
		l = append(l, duo{a, y})
	}
	return l
}

func (p *prover) lex(a, b *part) (way, bool) {
	if !p.byLex(a, b) {
		return way{}, false
	}
	k := passed(a, b)
	var first []duo
	if k < len(b.row) {
		first = []duo{{a.row[k], b.row[k]}}
	}
	return way{proof: api.PathProof{Rule: api.PathLex, At: k}, needs: aboveEach(first, a, b)}, true
}

func (p *prover) multi(a, b *part) (way, bool) {
	if !p.byMulti(a, b) {
		return way{}, false
	}
	to, left := paired(a, b)
	w := way{proof: api.PathProof{Rule: api.PathMulti, To: to}}
	for j, y := range b.l {
		var d duo
		if to[j] < 0 {
			to[j] = p.nearest(a, y, left)
			d = duo{a.l[to[j]], y}
		}
		w.needs = append(w.needs, d)
	}
	return w, true
}

// nearest returns which one of a's arguments that are left is greater than y by the least proof.
func (p *prover) nearest(a, y *part, left []int) int {
	out := -1
	for _, i := range left {
		if p.greater(a.l[i], y) && (out < 0 || p.size(duo{a.l[i], y}) < p.size(duo{a.l[out], y})) {
			out = i
		}
	}
	return out
}
