package paths

import "madrigal/api"

// verifier accepts proofs. Of what compares terms it uses only the classes of parts, which are those of equal ones.
type verifier struct {
	nodes int // how many were looked at: what shares memory can have far more than can be gone through
}

// accepts reports whether p is a proof that a is greater than b.
func (v *verifier) accepts(p api.PathProof, a, b *part) bool {
	rules := [...]func(v *verifier, p api.PathProof, a, b *part) bool{
		api.PathSub: (*verifier).sub, api.PathPlace: (*verifier).place, api.PathLex: (*verifier).lex, api.PathMulti: (*verifier).multi,
	}
	v.nodes++
	if v.nodes > maxProof || p.Rule < api.PathSub || p.Rule > api.PathMulti || !a.isOp {
		return false
	}
	return rules[p.Rule](v, p, a, b)
}

func (v *verifier) sub(p api.PathProof, a, b *part) bool {
	if len(p.To) > 0 || p.At < 0 || p.At >= len(a.l) {
		return false
	}
	x := a.l[p.At]
	if len(p.L) == 0 {
		return x.class == b.class
	}
	return len(p.L) == 1 && v.accepts(p.L[0], x, b)
}

func (v *verifier) place(p api.PathProof, a, b *part) bool {
	return len(p.To) == 0 && p.At == 0 && b.isOp && a.place > b.place && v.aboveEach(p.L, a, b)
}

// aboveEach reports whether l has a proof for each argument of b that a is greater.
func (v *verifier) aboveEach(l []api.PathProof, a, b *part) bool {
	if len(l) != len(b.l) {
		return false
	}
	for i, y := range b.l {
		if !v.accepts(l[i], a, y) {
			return false
		}
	}
	return true
}

func (v *verifier) lex(p api.PathProof, a, b *part) bool {
	if len(p.To) > 0 || !b.isOp || a.place != b.place || a.status == api.ByMulti {
		return false
	}
	if p.At < 0 || p.At >= len(a.row) || p.At > len(b.row) {
		return false
	}
	for i := range p.At {
		if a.row[i].class != b.row[i].class {
			return false
		}
	}
	l := p.L
	if p.At < len(b.row) {
		if len(l) == 0 || !v.accepts(l[0], a.row[p.At], b.row[p.At]) {
			return false
		}
		l = l[1:]
	}
	return v.aboveEach(l, a, b)
}

func (v *verifier) multi(p api.PathProof, a, b *part) bool {
	if p.At != 0 || !b.isOp || a.place != b.place || a.status != api.ByMulti || len(p.To) != len(b.l) || len(p.L) != len(b.l) {
		return false
	}
	var uses, pairs [api.MaxArgs]int // how often the arguments of a stand in To, and how often they are in a pair
	free := len(a.l)
	for j, y := range b.l {
		i := p.To[j]
		if i < 0 || i >= len(a.l) {
			return false
		}
		uses[i]++
		if isEmpty(p.L[j]) {
			if a.l[i].class != y.class {
				return false
			}
			pairs[i]++
			free--
		} else if !v.accepts(p.L[j], a.l[i], y) {
			return false
		}
	}
	for i := range a.l {
		if pairs[i] > 0 && uses[i] > 1 {
			return false
		}
	}
	return free > 0
}

func isEmpty(p api.PathProof) bool {
	return p.Rule == 0 && p.At == 0 && len(p.To) == 0 && len(p.L) == 0
}
