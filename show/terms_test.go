package show_test

import (
	"slices"
	"strconv"
	"strings"
	"testing"

	"madrigal/api"
	"madrigal/lex"
	"madrigal/parse"
	"madrigal/show"
)

func v(n int) api.Term { return api.Term{Kind: api.KVar, N: n} }

func o(n int, l ...api.Term) api.Term { return api.Term{Kind: api.KOp, N: n, L: l} }

// op is an operation of the sort 0, with arguments of it.
func op(name string, arguments int) api.Op {
	return api.Op{Name: name, Args: make([]int, arguments)}
}

func sigOf(ops ...api.Op) api.Sig { return api.Sig{Sorts: []string{"nat", "int"}, Ops: ops} }

// numbers: operations of all forms; 0 and c, f and _+_ are there for both sorts.
func numbers() api.Sig {
	return sigOf(op("0", 0), op("s", 1), op("_+_", 2), op("c", 0), api.Op{Name: "c", Res: 1}, api.Op{Name: "0", Res: 1}, op("f", 1), op("f", 2), api.Op{Name: "f", Args: []int{1}, Res: 1},
		api.Op{Name: "_+_", Args: []int{1, 1}, Res: 1}, op("-_", 1), op("_%", 1), op("if_then_else_", 3), op("+", 0), op("lo_hi", 1), op("*", 2))
}

func sameMixes(a, b []api.Mix) bool {
	return slices.EqualFunc(a, b, func(x, y api.Mix) bool {
		return slices.Equal(x.Parts, y.Parts) && x.Left == y.Left && x.Right == y.Right && x.Prio == y.Prio && x.Side == y.Side
	})
}

// P3.3
func TestMixes(t *testing.T) {
	want := []api.Mix{mix("+", true, true, 9, 0), mix("-", false, true, 9, 0), mix("%", true, false, 9, 0), mix("if then else", false, true, 9, 0), mix("lo hi", false, false, 9, 0)}
	if l, err := show.Mixes(numbers()); !sameMixes(l, want) || err != api.OK {
		t.Errorf("%v %d", l, err)
	}
	var many []api.Op
	for i := range api.MaxOps + 1 {
		many = append(many, op("_a"+strings.Repeat("b", i%16)+strings.Repeat("c", i/16), 1))
	}
	long := strings.Repeat("a", api.MaxName)
	for i, x := range []struct {
		s   api.Sig
		err api.Errno
	}{
		{api.Sig{}, api.OK}, {api.Sig{Sorts: []string{long, "x'", "left"}}, api.OK}, {api.Sig{Sorts: []string{long + "a"}}, api.ErrNames}, {api.Sig{Sorts: []string{"nat", "+"}}, api.ErrNames}, {api.Sig{Sorts: []string{"7"}}, api.ErrNames}, {api.Sig{Sorts: []string{"stop"}}, api.ErrNames}, {api.Sig{Sorts: []string{""}}, api.ErrNames}, {api.Sig{Sorts: []string{"a b"}}, api.ErrNames}, {api.Sig{Sorts: []string{"a_"}}, api.ErrNames},
		{sigOf(op("", 0)), api.ErrNames}, {sigOf(op("stop", 0)), api.ErrNames}, {sigOf(op("i", 0)), api.ErrNames}, {sigOf(op("=", 0)), api.ErrNames}, {sigOf(op("[]", 0)), api.ErrNames}, {sigOf(op("a b", 0)), api.ErrNames}, {sigOf(op("p#2", 0)), api.ErrNames}, {sigOf(op(long, 8)), api.OK}, {sigOf(op(long+"a", 0)), api.ErrNames}, {sigOf(op("==", 3)), api.OK}, {sigOf(op("f", 0), op("f", 0)), api.OK},
		{sigOf(op("0", 0)), api.OK}, {sigOf(op("2147483647", 0)), api.OK}, {sigOf(op("2147483648", 0)), api.ErrNames}, {sigOf(op("07", 0)), api.ErrNames}, {sigOf(op("-7", 0)), api.ErrNames}, {sigOf(op("7", 1)), api.ErrNames}, {sigOf(op("7a", 0)), api.ErrNames},
		{sigOf(op("_", 1)), api.ErrNames}, {sigOf(op("__", 2)), api.ErrNames}, {sigOf(op("__a", 2)), api.ErrNames}, {sigOf(op("a__b", 2)), api.ErrNames}, {sigOf(op("_7", 1)), api.ErrNames}, {sigOf(op("_of_", 2)), api.ErrNames}, {sigOf(op("a b_", 1)), api.ErrNames}, {sigOf(op("_"+long, 1)), api.OK}, {sigOf(op("_"+long+"a", 1)), api.ErrNames},
		{sigOf(op("_+_", 1)), api.ErrNames}, {sigOf(op("_+_", 3)), api.ErrNames}, {sigOf(op("_+_", 2), op("_+_", 0)), api.ErrNames}, {sigOf(op("_+", 0)), api.ErrNames}, {sigOf(op(strings.Repeat("_a", 8), 8)), api.OK}, {sigOf(op(strings.Repeat("_a", 8)+"_", 9)), api.OK}, {sigOf(op(strings.Repeat("_a", 9), 9)), api.ErrNames},
		{sigOf(op("if", 0), op("if_then_", 2)), api.ErrNames}, {sigOf(op("if", 3), op("if_then_", 2)), api.ErrNames}, {sigOf(op("if_then_", 2), op("then", 0)), api.OK}, {sigOf(op("+", 0), op("_+_", 2)), api.OK}, {sigOf(op("+", 0), op("+_", 1)), api.ErrNames}, {sigOf(op("+", 0), op("_+_", 2), op("+_", 1)), api.ErrNames},
		{sigOf(op("_+_", 2), op("+_", 1)), api.OK}, {sigOf(op("_+_", 2), op("_+", 1)), api.ErrNames}, {sigOf(op("a_b_", 2), op("a_c_", 2)), api.ErrNames}, {sigOf(op("a_b_", 2), op("b_a_", 2)), api.OK}, {sigOf(many[:api.MaxOps]...), api.OK}, {sigOf(many...), api.ErrNames}, {sigOf(append(many[:api.MaxOps:api.MaxOps], many[0], op("f", 1))...), api.OK},
	} {
		l, err := show.Mixes(x.s)
		if err != x.err || err != api.OK && l != nil || parse.CheckOps(l) != api.OK {
			t.Errorf("Mixes, %d: %v %d", i, l, err)
		}
		if n, err := show.TermTree(x.s, nil, o(-1)); (x.err == api.OK) != (err == api.ErrTerm) || (x.err != api.OK) != (err == api.ErrNames) || n.Kind != 0 {
			t.Errorf("TermTree, %d: %d", i, err)
		}
		if s, err := show.Label(x.s, nil, api.Label{Gate: api.GTick}); (s == "tick") != (x.err == api.OK) || err != x.err {
			t.Errorf("Label, %d: %q %d", i, s, err)
		}
		if _, err := show.SpecTree(api.Spec{Type: api.Type{Sig: x.s}}); (x.err == api.OK) != (err == api.ErrSpec) || (x.err != api.OK) != (err == api.ErrNames) {
			t.Errorf("SpecTree, %d: %d", i, err)
		}
	}
}

// P3.3
func TestTerm(t *testing.T) {
	vars := []string{"x", "y'", "then"}
	for _, x := range []struct {
		t    api.Term
		tree api.Node
		text string
	}{
		{v(0), app("x"), "x"}, {v(2), app("then"), "then"}, {o(1, v(1)), app("s", app("y'")), "s(y')"}, {o(3), of("nat", app("c")), "c of nat"}, {o(4), of("int", app("c")), "c of int"}, {o(5), of("int", app("0")), "0 of int"}, {o(7, o(0), v(0)), app("f", of("nat", app("0")), app("x")), "f(0 of nat,x)"},
		{o(6, o(8, v(0))), of("nat", app("f", of("int", app("f", app("x"))))), "f(f(x)of int)of nat"}, {o(2, v(0), o(9, v(1), v(1))), of("nat", app("_+_", app("x"), of("int", app("_+_", app("y'"), app("y'"))))), "(x+(y'+y')of int)of nat"},
		{o(11, o(10, v(0))), app("_%", app("-_", app("x"))), "(-x)%"}, {o(10, o(11, v(0))), app("-_", app("_%", app("x"))), "-x%"}, {o(10, o(10, v(0))), app("-_", app("-_", app("x"))), "- -x"}, {o(12, v(2), v(2), v(2)), app("if_then_else_", app("then"), app("then"), app("then")), "if then then then else then"},
		{o(14, o(13)), app("lo_hi", app("+")), "lo+hi"}, {o(15, o(13), o(13)), app("*", app("+"), app("+")), "*(+,+)"},
	} {
		n, err := show.TermTree(numbers(), vars, x.t)
		if err != api.OK || !parse.Same(n, x.tree) || n.At != 0 || n.End != 0 {
			t.Errorf("TermTree(%v): %v %d", x.t, n, err)
		}
		if s, err := show.Term(numbers(), vars, x.t); s != x.text || err != api.OK {
			t.Errorf("Term(%v): %q %d instead of %q", x.t, s, err, x.text)
		}
	}
}

// P3.3: what is no term, names that variables cannot have, and which of several errors is reported.
func TestTermRefused(t *testing.T) {
	var many []string
	for i := range api.MaxVars + 1 {
		many = append(many, "x"+strconv.Itoa(i))
	}
	other := sigOf(api.Op{Name: "c", Res: 2}, api.Op{Name: "c", Res: -1}, api.Op{Name: "d", Res: 7})
	for i, x := range []struct {
		s    api.Sig
		vars []string
		t    api.Term
		err  api.Errno
	}{
		{numbers(), []string{"x"}, v(0), api.OK}, {numbers(), []string{"x"}, v(1), api.ErrTerm}, {numbers(), []string{"x"}, v(-1), api.ErrTerm}, {numbers(), nil, v(0), api.ErrTerm}, {numbers(), []string{"x"}, api.Term{Kind: api.KVar, L: []api.Term{o(0)}}, api.ErrTerm}, {numbers(), nil, api.Term{}, api.ErrTerm}, {numbers(), nil, api.Term{Kind: 3}, api.ErrTerm}, {numbers(), nil, o(16), api.ErrTerm}, {numbers(), nil, o(-1), api.ErrTerm}, {numbers(), nil, o(0, o(0)), api.ErrTerm}, {numbers(), nil, o(1), api.ErrTerm}, {numbers(), nil, o(1, o(0), o(0)), api.ErrTerm}, {numbers(), nil, o(1, o(1, o(99))), api.ErrTerm},
		{other, nil, o(0), api.ErrTerm}, {other, nil, o(1), api.ErrTerm}, {other, nil, o(2), api.OK},
		{numbers(), many[:api.MaxVars], v(63), api.OK}, {numbers(), many, v(0), api.ErrNames}, {numbers(), []string{"x", "y", "x"}, v(0), api.ErrNames}, {numbers(), []string{"c"}, v(0), api.ErrNames}, {numbers(), []string{"if"}, v(0), api.ErrNames}, {numbers(), []string{"lo"}, v(0), api.ErrNames}, {numbers(), []string{"hi"}, v(0), api.OK}, {numbers(), []string{"f", "s", "nat"}, v(2), api.OK}, {numbers(), []string{"0"}, v(0), api.ErrNames}, {numbers(), []string{"+"}, v(0), api.ErrNames}, {numbers(), []string{"*"}, v(0), api.ErrNames}, {numbers(), []string{""}, v(0), api.ErrNames}, {numbers(), []string{"of"}, v(0), api.ErrNames}, {numbers(), []string{"x y"}, v(0), api.ErrNames}, {numbers(), []string{strings.Repeat("x", 33)}, v(0), api.ErrNames},
		{numbers(), []string{"c"}, v(7), api.ErrNames}, {sigOf(op("stop", 0)), []string{"x"}, v(7), api.ErrNames},
	} {
		n, err := show.TermTree(x.s, x.vars, x.t)
		if err != x.err || (n.Kind == 0) == (err == api.OK) {
			t.Errorf("TermTree, %d: %v %d", i, n, err)
		}
		s, err := show.Term(x.s, x.vars, x.t)
		if err != x.err || (s == "") == (err == api.OK) {
			t.Errorf("Term, %d: %q %d", i, s, err)
		}
	}
}

// nested is s(s(.. t)), so many of them.
func nested(n int, t api.Term) api.Term {
	for range n {
		t = o(1, t)
	}
	return t
}

// wide is a balanced sum of 2 to the n terms.
func wide(n int, t api.Term) api.Term {
	for range n {
		t = o(2, t, t)
	}
	return t
}

// P3.3: the limits of trees and texts.
func TestTermLimits(t *testing.T) {
	s := sigOf(op("0", 0), op("s", 1), op("_+_", 2), op(strings.Repeat("a", api.MaxName), 0), op("f", 1), api.Op{Name: "f", Args: []int{1}, Res: 1})
	for i, x := range []struct {
		t          api.Term
		tree, text api.Errno
	}{
		{nested(399, o(0)), api.OK, api.OK}, {nested(400, o(0)), api.ErrLimit, api.ErrLimit}, {nested(400, o(9)), api.ErrTerm, api.ErrTerm}, {nested(60000, o(0)), api.ErrLimit, api.ErrLimit},
		{o(2, nested(396, o(4, o(0))), o(0)), api.OK, api.OK}, {o(2, nested(397, o(4, o(0))), o(0)), api.ErrLimit, api.ErrLimit},
		// Sums of 2^n numbers have 2^(n+1)-1 nodes, and with brackets 2^n + 3 * (2^n - 1) - 2 tokens.
		{wide(12, o(0)), api.OK, api.OK}, {wide(13, o(0)), api.OK, api.ErrLimit}, {wide(14, o(0)), api.OK, api.ErrLimit}, {wide(15, o(0)), api.ErrLimit, api.ErrLimit}, {wide(40, o(0)), api.ErrLimit, api.ErrLimit}, {wide(12, o(3)), api.OK, api.ErrLimit},
	} {
		n, err := show.TermTree(s, nil, x.t)
		if err != x.tree || (n.Kind == 0) == (err == api.OK) {
			t.Errorf("TermTree, %d: %d", i, err)
		}
		text, err := show.Term(s, nil, x.t)
		if err != x.text || (text == "") == (err == api.OK) {
			t.Errorf("Term, %d: %d bytes, %d", i, len(text), err)
		}
		label, err := show.Label(s, nil, api.Label{Gate: api.GInt, Vals: []api.Term{x.t}})
		if err != x.text || err == api.OK && label != "i!"+text || err != api.OK && label != "" {
			t.Errorf("Label, %d: %d bytes, %d", i, len(label), err)
		}
	}
}

// P3.3
func TestLabel(t *testing.T) {
	var many []string
	for i := range api.MaxGates + 1 {
		many = append(many, "g"+strconv.Itoa(i))
	}
	gates := []string{"a", "tick", "c"}
	for i, x := range []struct {
		gates []string
		l     api.Label
		want  string
		err   api.Errno
	}{
		{gates, api.Label{}, "a", api.OK}, {gates, api.Label{Gate: 1}, "tick", api.OK}, {gates, api.Label{Gate: 2, Vals: []api.Term{o(0), o(4)}}, "c!0 of nat!c of int", api.OK}, {gates, api.Label{Gate: api.GInt}, "i", api.OK}, {nil, api.Label{Gate: api.GExit}, "exit", api.OK}, {nil, api.Label{Gate: api.GTick}, "tick", api.OK},
		{gates, api.Label{Gate: api.GExit, Vals: []api.Term{o(2, o(2, o(3), o(3)), o(13))}}, "exit!((c of nat+c of nat)of nat+ +)of nat", api.OK}, {gates, api.Label{Vals: []api.Term{o(10, o(13)), o(13), o(13)}}, "a!- +!+!+", api.OK}, {gates, api.Label{Vals: []api.Term{o(15, o(13), o(13))}}, "a!*(+,+)", api.OK},
		{gates, api.Label{Gate: 3}, "", api.ErrArg}, {gates, api.Label{Gate: -4}, "", api.ErrArg}, {nil, api.Label{}, "", api.ErrArg}, {gates, api.Label{Vals: []api.Term{v(0)}}, "", api.ErrTerm}, {gates, api.Label{Vals: []api.Term{o(0), o(1)}}, "", api.ErrTerm}, {gates, api.Label{Vals: []api.Term{{}}}, "", api.ErrTerm},
		{[]string{"a", "a"}, api.Label{Gate: 9}, "", api.ErrNames}, {[]string{"+"}, api.Label{}, "", api.ErrNames}, {[]string{"i"}, api.Label{}, "", api.ErrNames}, {[]string{"a b"}, api.Label{Vals: []api.Term{{}}}, "", api.ErrNames}, {[]string{""}, api.Label{}, "", api.ErrNames}, {[]string{strings.Repeat("a", 33)}, api.Label{}, "", api.ErrNames}, {many[:api.MaxGates], api.Label{Gate: 31}, "g31", api.OK}, {many, api.Label{}, "", api.ErrNames},
	} {
		if s, err := show.Label(numbers(), x.gates, x.l); s != x.want || err != x.err {
			t.Errorf("Label, %d: %q %d", i, s, err)
		}
	}
}

// term returns a random term of a sort, with variables of the sort 0 and, behind them, of the sort 1.
func (m *maker) term(s api.Sig, vars []int, sort, deep int) api.Term {
	var l []api.Term
	for i, x := range vars {
		if x == sort {
			l = append(l, v(i))
		}
	}
	for i, x := range s.Ops {
		if x.Res == sort && (deep > 0 || len(x.Args) == 0) {
			l = append(l, o(i))
		}
	}
	t := l[m.r.Intn(len(l))]
	if t.Kind == api.KOp {
		for _, x := range s.Ops[t.N].Args {
			t.L = append(t.L, m.term(s, vars, x, m.r.Intn(deep)))
		}
	}
	return t
}

// P3.3, P3.9
func TestTermsApart(t *testing.T) {
	s, names, vars := numbers(), []string{"x", "y", "f"}, []int{0, 1, 0}
	mixes, err := show.Mixes(s)
	if err != api.OK {
		t.Fatal(err)
	}
	m := newMaker(7, nil)
	trees := map[string]string{}
	for range 6000 {
		x := m.term(s, vars, m.r.Intn(2), m.r.Intn(5))
		n, err := show.TermTree(s, names, x)
		if err != api.OK {
			t.Fatal(x, err)
		}
		text, err := show.Term(s, names, x)
		if own := holdExpr(t, n, mixes); own != text || err != api.OK {
			t.Fatalf("Term(%v): %q %d, and not %q", x, text, err, own)
		}
		key := term(x)
		if old, had := trees[text]; had && old != key {
			t.Fatalf("%q is the text of %s and of %s", text, old, key)
		}
		trees[text] = key
		label, err := show.Label(sigOf(s.Ops...), []string{"g"}, api.Label{Vals: []api.Term{closed(x), closed(x)}})
		if l := tokensOf(label); err != api.OK || label != joined(t, l) || !slices.Equal(bare(l), labelTokens(t, s, closed(x))) {
			t.Fatalf("%q, %d", label, err)
		}
	}
}

// term tells terms apart.
func term(t api.Term) string {
	s := strconv.Itoa(t.Kind) + "." + strconv.Itoa(t.N) + "("
	for _, x := range t.L {
		s += term(x)
	}
	return s + ")"
}

// closed returns a term with 0 in the place of each variable.
func closed(t api.Term) api.Term {
	if t.Kind == api.KVar {
		return o(0)
	}
	out := o(t.N)
	for _, x := range t.L {
		out.L = append(out.L, closed(x))
	}
	return out
}

// labelTokens returns the tokens of g with twice a value.
func labelTokens(t *testing.T, s api.Sig, x api.Term) []api.Token {
	t.Helper()
	value, err := show.Term(s, nil, x)
	if err != api.OK {
		t.Fatal(err)
	}
	l, _, err := lex.Tokens("g ! " + value + " ! " + value)
	if err != api.OK {
		t.Fatal(err)
	}
	return bare(l)
}
