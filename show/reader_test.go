package show_test

import (
	"fmt"
	"slices"
	"strconv"
	"strings"
	"testing"

	"madrigal/api"
)

// reader finds what trees of behaviours and specifications mean, by their names alone.
type reader struct {
	t *testing.T
	s api.Spec
}

func newReader(t *testing.T, s api.Spec) *reader { return &reader{t, s} }

// index returns where a name stands in a list, once.
func (r *reader) index(l []string, s string) int {
	r.t.Helper()
	i := slices.Index(l, s)
	if i < 0 || slices.Contains(l[i+1:], s) {
		r.t.Fatalf("%q in %v", s, l)
	}
	return i
}

func (r *reader) sort(n api.Node) int { return r.index(r.s.Type.Sig.Sorts, n.S) }

func (r *reader) term(n api.Node, vars []string) api.Term {
	r.t.Helper()
	sort := -1
	if n.Kind == api.NdOf {
		sort = r.sort(n)
		n = n.L[0]
	}
	if len(n.L) == 0 && slices.Contains(vars, n.S) {
		return v(r.index(vars, n.S))
	}
	var found []int
	for i, x := range r.s.Type.Sig.Ops {
		if x.Name == n.S && len(x.Args) == len(n.L) && (sort < 0 || x.Res == sort) {
			found = append(found, i)
		}
	}
	if len(found) != 1 {
		r.t.Fatalf("%q is %v", n.S, found)
	}
	t := o(found[0])
	for _, x := range n.L {
		t.L = append(t.L, r.term(x, vars))
	}
	return t
}

func (r *reader) pairs(n api.Node, vars []string) []api.Pair {
	var l []api.Pair
	for _, x := range n.L {
		l = append(l, pair(r.term(x.L[0], vars), r.term(x.L[1], vars)))
	}
	return l
}

func (r *reader) gates(n api.Node, gates []string) []int {
	var l []int
	for _, x := range n.L {
		l = append(l, r.index(gates, x.S))
	}
	return l
}

// declared returns the sorts of variables that are declared, and all names that are seen then.
func (r *reader) declared(n api.Node, vars []string) ([]int, []string) {
	var sorts []int
	vars = slices.Clone(vars)
	for _, x := range n.L {
		sorts = append(sorts, r.sort(x.L[0]))
		vars = append(vars, x.S)
		r.index(vars, x.S)
	}
	return sorts, vars
}

// operators are the kinds of nodes that are behaviours of two elements, and nothing else.
var operators = map[int]int{api.NdChoice: api.BChoice, api.NdDisable: api.BDisable}

func (r *reader) behaviour(n api.Node, gates, vars []string) api.Beh {
	switch n.Kind {
	case api.NdStop:
		return halt()
	case api.NdExit:
		offers, _ := r.offers(n.L, vars)
		return exit(offers...)
	case api.NdPre:
		return r.action(n, gates, vars)
	case api.NdChoice, api.NdDisable:
		return both(operators[n.Kind], r.behaviour(n.L[0], gates, vars), r.behaviour(n.L[1], gates, vars))
	case api.NdPar:
		b := both(api.BPar, r.behaviour(n.L[1], gates, vars), r.behaviour(n.L[2], gates, vars))
		b.Gates = r.gates(n.L[0], gates)
		if (n.S == "|||") != (len(b.Gates) == 0) {
			r.t.Fatal(n.S, b.Gates)
		}
		return b
	case api.NdHide:
		gates = slices.Clone(gates)
		for _, x := range n.L[0].L {
			gates = append(gates, x.S)
			r.index(gates, x.S)
		}
		return hide(len(n.L[0].L), r.behaviour(n.L[1], gates, vars))
	case api.NdEnable:
		sorts, seen := r.declared(n.L[0], vars)
		return enable(r.behaviour(n.L[1], gates, vars), r.behaviour(n.L[2], gates, seen), sorts...)
	case api.NdGuard:
		return guard(r.behaviour(n.L[1], gates, vars), r.pairs(n.L[0], vars)...)
	case api.NdLet:
		sorts, seen := r.declared(n.L[0], vars)
		b := api.Beh{Kind: api.BLet, Sorts: sorts, L: []api.Beh{r.behaviour(n.L[1], gates, seen)}}
		for _, x := range n.L[0].L {
			b.T = append(b.T, r.term(x.L[1], vars))
		}
		return b
	case api.NdSome:
		sorts, seen := r.declared(n.L[0], vars)
		return some(r.behaviour(n.L[1], gates, seen), sorts...)
	case api.NdCall:
		b := api.Beh{Kind: api.BCall, N: slices.IndexFunc(r.s.Procs, func(p api.Proc) bool { return p.Name == n.S }), Gates: r.gates(n.L[0], gates)}
		for _, x := range n.L[1].L {
			b.T = append(b.T, r.term(x, vars))
		}
		return b
	case api.NdWait:
		return wait(n.N, r.behaviour(n.L[0], gates, vars))
	}
	r.t.Fatalf("the kind %d", n.Kind)
	return api.Beh{}
}

// offers returns offers, and the names of new variables.
func (r *reader) offers(l []api.Node, vars []string) ([]api.Offer, []string) {
	var offers []api.Offer
	var fresh []string
	for _, x := range l {
		if x.Kind == api.NdGive {
			offers = append(offers, out(r.term(x.L[0], vars)))
			continue
		}
		offers = append(offers, in(r.sort(x.L[0])))
		fresh = append(fresh, x.S)
	}
	return offers, fresh
}

func (r *reader) action(n api.Node, gates, vars []string) api.Beh {
	offers, fresh := r.offers(n.L[1].L, vars)
	seen := slices.Concat(vars, fresh)
	for _, x := range seen {
		r.index(seen, x)
	}
	b := act(api.GInt, r.behaviour(n.L[4], gates, seen), offers...)
	if n.L[0].S != "i" {
		b.Gate = r.index(gates, n.L[0].S)
	}
	b.Conds = r.pairs(n.L[2], seen)
	for _, x := range n.L[3].L {
		b.Lo, _ = strconv.Atoi(x.L[0].S)
		switch x.N {
		case 1:
			b.Hi = b.Lo
		case 3:
			b.Hi, _ = strconv.Atoi(x.L[1].S)
		}
		if (b.Lo == b.Hi) != (x.N == 1) {
			r.t.Fatal(b.Lo, b.Hi, x.N)
		}
	}
	return b
}

// holdSpec checks that a tree is that of the reader's specification.
func (r *reader) holdSpec(n api.Node) {
	r.t.Helper()
	data := n.L[3].L[0]
	for i, x := range data.L[6].L {
		e := r.s.Type.Eqns[i]
		sorts, vars := r.declared(x.L[0], nil)
		eqn := x.L[1].L[0]
		got := api.Eqn{Vars: sorts, Conds: r.pairs(eqn.L[0], vars), A: r.term(eqn.L[1].L[0], vars), B: r.term(eqn.L[1].L[1], vars)}
		if eqnText(got) != eqnText(e) || len(x.L[1].L) != 1 || x.S != r.s.Type.Sig.Sorts[r.s.Type.Sig.Ops[e.A.N].Res] {
			r.t.Fatalf("the equation %s instead of %s", eqnText(got), eqnText(e))
		}
	}
	for i, x := range data.L[5].L {
		got := api.Op{Name: x.S, Args: r.gates(x.L[0], r.s.Type.Sig.Sorts), Res: r.sort(x.L[1])}
		if want := r.s.Type.Sig.Ops[i]; got.Name != want.Name || got.Res != want.Res || !slices.Equal(got.Args, want.Args) || x.N != 36 {
			r.t.Fatalf("the operation %v instead of %v", got, want)
		}
	}
	if len(data.L[6].L) != len(r.s.Type.Eqns) || len(data.L[5].L) != len(r.s.Type.Sig.Ops) || !slices.Equal(namesOf(data.L[4]), r.s.Type.Sig.Sorts) || !slices.Equal(namesOf(n.L[0]), r.s.Gates) || n.S != "spec" || data.S != "data" || len(n.L[1].L) != 0 || len(n.L[5].L) != len(r.s.Procs) {
		r.t.Fatal("the lists of a specification")
	}
	if got := r.behaviour(n.L[4], r.s.Gates, nil); behText(got) != behText(r.s.Main) {
		r.t.Fatalf("%s instead of %s", behText(got), behText(r.s.Main))
	}
	for i, p := range r.s.Procs {
		x := n.L[5].L[i]
		sorts, vars := r.declared(x.L[1], nil)
		gates := namesOf(x.L[0])
		if x.S != p.Name || !slices.Equal(sorts, p.Vars) || len(gates) != p.Gates || len(x.L[4].L) != 0 || (x.L[2].N == 1) != p.Func.Ends || p.Func.Ends && !slices.Equal(r.gates(x.L[2], r.s.Type.Sig.Sorts), p.Func.Sorts) {
			r.t.Fatalf("the process %v", x)
		}
		for k, s := range gates {
			if s != "g"+strconv.Itoa(k) {
				r.t.Fatalf("the gate %q", s)
			}
		}
		if got := r.behaviour(x.L[3], gates, vars); behText(got) != behText(p.B) {
			r.t.Fatalf("%s instead of %s", behText(got), behText(p.B))
		}
	}
}

func namesOf(n api.Node) []string {
	var l []string
	for _, x := range n.L {
		l = append(l, x.S)
	}
	return l
}

func eqnText(e api.Eqn) string {
	return fmt.Sprint(e.Vars, pairsText(e.Conds), term(e.A), term(e.B))
}

func pairsText(l []api.Pair) string {
	var b strings.Builder
	for _, x := range l {
		b.WriteString(term(x.A) + "=" + term(x.B) + ",")
	}
	return b.String()
}

// behText tells behaviours apart.
func behText(b api.Beh) string {
	var s strings.Builder
	fmt.Fprint(&s, b.Kind, b.N, b.Gate, b.Lo, b.Hi, b.Gates, b.Sorts, pairsText(b.Conds))
	for _, x := range b.Offers {
		fmt.Fprint(&s, "!", x.In, x.Sort, term(x.T))
	}
	for _, x := range b.T {
		s.WriteString("=" + term(x))
	}
	for _, x := range b.L {
		s.WriteString("(" + behText(x) + ")")
	}
	return s.String()
}

// spec returns a random specification that can be written.
func (m *maker) spec() api.Spec {
	s := api.Spec{Type: api.Type{Sig: m.sig()}}
	s.Gates = []string{"a", "h1", "h2'"}[:m.r.Intn(4)]
	for i := range m.r.Intn(4) {
		s.Procs = append(s.Procs, api.Proc{Name: "P" + strconv.Itoa(i), Gates: m.r.Intn(3), Vars: m.sorts(0), Func: api.Func{Ends: m.r.Intn(2) == 0}})
	}
	for range m.r.Intn(4) {
		vars := m.sorts(0)
		e := api.Eqn{Vars: vars, Conds: m.pairs(s, vars, 0), A: v(0), B: m.term(s.Type.Sig, vars, 0, 2)}
		for e.A.Kind == api.KVar {
			e.A = m.term(s.Type.Sig, vars, m.r.Intn(2), 3)
		}
		s.Type.Eqns = append(s.Type.Eqns, e)
	}
	s.Main = m.behaviour(s, len(s.Gates), nil, 3)
	for i, p := range s.Procs {
		if p.Func.Ends {
			s.Procs[i].Func.Sorts = m.sorts(0)
		}
		s.Procs[i].B = m.behaviour(s, p.Gates, p.Vars, 3)
	}
	return s
}

// sig returns a signature with some of these operations, and one of each sort without arguments.
func (m *maker) sig() api.Sig {
	s := sigOf(op("0", 0), api.Op{Name: "c", Res: 1})
	for _, x := range []api.Op{op("v0", 0), op("v1_", 1), op("_+_", 2), {Name: "_+_", Args: []int{1, 1}, Res: 1}, op("c", 0), op("p0", 0), op("x1'", 0), {Name: "x1", Res: 1}, op("g", 2), {Name: "g", Args: []int{1, 0}, Res: 1}, op("lo_hi", 1), {Name: "_if_else_", Args: []int{0, 1, 0}}, {Name: "h0", Res: 1}, op("##", 0), op("$", 1)} {
		if m.r.Intn(2) == 0 {
			s.Ops = append(s.Ops, x)
		}
	}
	return s
}

func (m *maker) sorts(least int) []int {
	var l []int
	for range least + m.r.Intn(3) {
		l = append(l, m.r.Intn(2))
	}
	return l
}

func (m *maker) pairs(s api.Spec, vars []int, least int) []api.Pair {
	var l []api.Pair
	for range least + m.r.Intn(2) {
		sort := m.r.Intn(2)
		l = append(l, pair(m.term(s.Type.Sig, vars, sort, 2), m.term(s.Type.Sig, vars, sort, 2)))
	}
	return l
}

func (m *maker) offers(s api.Spec, vars []int) (l []api.Offer, inputs []int) {
	for range m.r.Intn(4) {
		sort := m.r.Intn(2)
		if m.r.Intn(2) == 0 {
			l = append(l, in(sort))
			inputs = append(inputs, sort)
		} else {
			l = append(l, out(m.term(s.Type.Sig, vars, sort, 2)))
		}
	}
	return l, inputs
}

// seen returns some gates of so many.
func (m *maker) seen(gates, most int) []int {
	var l []int
	if gates > 0 {
		for range m.r.Intn(most + 1) {
			l = append(l, m.r.Intn(gates))
		}
	}
	return l
}

// behaviour returns a random behaviour that can be written, in a surrounding.
func (m *maker) behaviour(s api.Spec, gates int, vars []int, deep int) api.Beh {
	if deep == 0 {
		return m.small(s, gates, vars)
	}
	deep = m.r.Intn(deep)
	x := func(fresh int, sorts []int) api.Beh {
		return m.behaviour(s, gates+fresh, slices.Concat(vars, sorts), deep)
	}
	switch m.r.Intn(12) {
	case 0:
		return m.small(s, gates, vars)
	case 1, 2:
		offers, inputs := m.offers(s, vars)
		b := act(api.GInt, x(0, inputs), offers...)
		if gates > 0 {
			b.Gate = m.r.Intn(gates)
		}
		if len(offers) > 0 {
			b.Conds = m.pairs(s, slices.Concat(vars, inputs), 0)
		}
		if m.r.Intn(3) == 0 {
			b.Lo, b.Hi = m.r.Intn(3), m.r.Intn(5)-1
		}
		return b
	case 3:
		return both(api.BChoice, x(0, nil), x(0, nil))
	case 4:
		b := both(api.BPar, x(0, nil), x(0, nil))
		b.Gates = m.seen(gates, 2)
		return b
	case 5:
		n := 1 + m.r.Intn(2)
		return hide(n, x(n, nil))
	case 6:
		sorts := m.sorts(0)
		return enable(x(0, nil), x(0, sorts), sorts...)
	case 7:
		return both(api.BDisable, x(0, nil), x(0, nil))
	case 8:
		return guard(x(0, nil), m.pairs(s, vars, 1)...)
	case 9:
		sorts := m.sorts(1)
		b := api.Beh{Kind: api.BLet, Sorts: sorts, L: []api.Beh{x(0, sorts)}}
		for _, sort := range sorts {
			b.T = append(b.T, m.term(s.Type.Sig, vars, sort, 2))
		}
		return b
	case 10:
		sorts := m.sorts(1)
		return some(x(0, sorts), sorts...)
	}
	return wait(m.r.Intn(4), x(0, nil))
}

func (m *maker) small(s api.Spec, gates int, vars []int) api.Beh {
	switch k := m.r.Intn(3); {
	case k == 0 && len(s.Procs) > 0:
		b := api.Beh{Kind: api.BCall, N: m.r.Intn(len(s.Procs)), Gates: m.seen(gates, 2)}
		for _, sort := range s.Procs[b.N].Vars {
			b.T = append(b.T, m.term(s.Type.Sig, vars, sort, 2))
		}
		return b
	case k == 1:
		offers, _ := m.offers(s, vars)
		return exit(offers...)
	}
	return halt()
}
