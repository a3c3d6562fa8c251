package parse_test

import (
	"slices"
	"strings"
	"testing"

	"madrigal/api"
	"madrigal/parse"
)

func mix(parts string, left, right bool, prio, side int) api.Mix {
	return api.Mix{Parts: strings.Fields(parts), Left: left, Right: right, Prio: prio, Side: side}
}

func sameMixes(a, b []api.Mix) bool {
	return slices.EqualFunc(a, b, func(x, y api.Mix) bool {
		return slices.Equal(x.Parts, y.Parts) && x.Left == y.Left && x.Right == y.Right && x.Prio == y.Prio && x.Side == y.Side
	})
}

// P2.1: which of several errors is reported.
func TestOrderOfErrors(t *testing.T) {
	two := "type t is opns _+_ : s, s -> s _+_ (3) : s, s -> s eqns ofsort s a b = c; endtype"
	for _, x := range []reading{
		{text: spec(two, "|"), at: len(spec(two, "")) - len(" endspec"), err: api.ErrLex}, badAt(spec(two, "◆stop")), {text: spec(two, ""), err: api.ErrMix},
		{text: spec("type t is opns _+_ (3) : s, s -> s eqns ofsort s a b = c; endtype", ""), at: 76, err: api.ErrExpr}, {text: "specification x : noexit type t is eqns ofsort s a = b c; d e = f; endtype behaviour P(x y) endspec", at: 55, err: api.ErrExpr},
		{text: "specification x : noexit behaviour P(x y) where type t is eqns ofsort s a b = c; endtype endspec", at: 39, err: api.ErrExpr}, {text: spec("type t is eqns ofsort s a b = c; endtype", "") + " " + strings.Repeat(";", api.MaxTokens), err: api.ErrLimit},
	} {
		n, at, err := parse.Parse(x.text)
		x.hold(t, n, at, err)
	}
	twice := append(table(), table()[0])
	for _, text := range []string{"a", "", "a b", "a; b", "|", strings.Repeat(" ", api.MaxText+1)} {
		n, at, err := parse.Expr(text, twice)
		reading{text: text, err: api.ErrMix}.hold(t, n, at, err)
		n, at, err = parse.Behaviour(text, twice)
		reading{text: text, err: api.ErrMix}.hold(t, n, at, err)
	}
	for _, x := range []reading{
		bad("P(x y", 5), {text: "P(x y); stop", at: 6, err: api.ErrSyntax}, wrong("P(x y) [] Q(a b)", 4), wrong("g !f(x; stop", 6), wrong("g !(x) !- ; stop", 10), wrong("[a = -] -> Q(a b)", 6), {text: "P(x y) |", at: 7, err: api.ErrLex},
	} {
		n, at, err := parse.Behaviour(x.text, table())
		x.hold(t, n, at, err)
	}
}

// actions is a behaviour of so many actions, one behind the other.
func actions(n int) string { return strings.Repeat("a;", n) + "stop" }

// P2.1: the limits of texts and trees.
func TestLimits(t *testing.T) {
	deep := api.MaxUnder - 1
	for _, x := range []struct {
		text string
		err  api.Errno
	}{
		{actions(deep), api.OK}, {actions(deep + 1), api.ErrLimit}, {strings.Repeat("(", 9000) + "stop" + strings.Repeat(")", 9000), api.OK},
		{"P(" + strings.Repeat("f(", deep-3) + "x" + strings.Repeat(")", deep-3) + ")", api.OK}, {"P(" + strings.Repeat("f(", deep-1) + "x" + strings.Repeat(")", deep-1) + ")", api.ErrLimit},
		{strings.Repeat(" ", api.MaxText-4) + "stop", api.OK}, {strings.Repeat(" ", api.MaxText-3) + "stop", api.ErrLimit}, {"stop" + strings.Repeat("[]stop", 9999), api.ErrLimit}, {"(stop)" + strings.Repeat("[]stop", 10000), api.ErrLimit},
		{"exit(x" + strings.Repeat("+x", 380) + ")", api.OK}, {"exit(x" + strings.Repeat("+x", 400) + ")", api.ErrLimit}, {"exit(" + strings.Repeat("(", 9000) + "x" + strings.Repeat(")", 9000) + ")", api.OK},
	} {
		n, at, err := parse.Behaviour(x.text, table())
		if at != 0 || err != x.err || (n.Kind == 0) == (err == api.OK) {
			t.Errorf("Behaviour(%.30q), %d bytes: %d %d", x.text, len(x.text), at, err)
		}
	}
	if n, at, err := parse.Expr(strings.Repeat("f(", deep)+"x"+strings.Repeat(")", deep), nil); n.Kind == 0 || at != 0 || err != api.OK {
		t.Errorf("Expr as deep as can be: %d %d", at, err)
	}
	if n, at, err := parse.Expr(strings.Repeat("f(", deep+1)+"x"+strings.Repeat(")", deep+1), nil); n.Kind != 0 || at != 0 || err != api.ErrLimit {
		t.Errorf("Expr deeper than can be: %d %d", at, err)
	}
}

// P2.1: what operations share is written once, and counts for each of them.
func TestShared(t *testing.T) {
	text := func(gates, ops, sorts int) string {
		list := func(n int, s string) string { return s + strings.Repeat(","+s, n-1) }
		return "specification x[" + list(gates, "a") + "]:noexit type t is opns " + list(ops, "f") + ":" + list(sorts, "s") + "->s endtype behaviour stop endspec"
	}
	n, _, err := parse.Parse(text(1, 200, 200))
	nodes, _ := parse.Size(n)
	if err != api.OK || nodes != 200*203+16 {
		t.Fatalf("%d nodes, %d", nodes, err)
	}
	// 234 operations of 252 sorts have 234 * 255 nodes; there are 15 more, and the gates.
	gates := api.MaxTree - 234*255 - 15
	n, at, err := parse.Parse(text(gates, 234, 252))
	if nodes, _ := parse.Size(n); nodes != api.MaxTree || at != 0 || err != api.OK || parse.Check(n) != api.OK {
		t.Errorf("%d nodes, %d %d", nodes, at, err)
	}
	n.L[0].L = append(n.L[0].L, n.L[0].L[0])
	if parse.Check(n) != api.ErrTree {
		t.Error("Check of a tree with a node too many")
	}
	for _, x := range []string{text(gates+1, 234, 252), text(1, 7, 9900), text(1, 4900, 4900), text(1, 9000, 900)} {
		if n, at, err := parse.Parse(x); n.Kind != 0 || at != 0 || err != api.ErrLimit {
			t.Errorf("Parse of %d bytes: %d %d", len(x), at, err)
		}
	}
	if _, at, err := parse.Parse(text(1, 4900, 4900) + "."); at != len(text(1, 4900, 4900)) || err != api.ErrSyntax {
		t.Errorf("too large, and wrong: %d %d", at, err)
	}
}

// P2.2
func TestOps(t *testing.T) {
	text := "specification x : noexit type t is formalopns if_then_ (2) : -> s _+_ (5 left), f, $ : -> s opns _+_ (5 left) : -> s -_ (6 right) : -> s 0 : -> s endtype type u is t renamedby opnnames _#_ for _+_ endtype behaviour stop " +
		"where process P : noexit := stop where type v is opns _ % : -> s if _ then _ (2) : -> s endtype endproc type w is opns left_right_left (9 left) : -> s endtype endspec"
	n, _, err := parse.Parse(text)
	if err != api.OK {
		t.Fatal(err)
	}
	want := []api.Mix{mix("if then", false, true, 2, 0), mix("+", true, true, 5, api.SideLeft), mix("-", false, true, 6, api.SideRight), mix("%", true, false, 9, 0), mix("left right left", false, false, 9, api.SideLeft)}
	if ops, err := parse.Ops(n); !sameMixes(ops, want) || err != api.OK {
		t.Errorf("Ops: %v %d", ops, err)
	}
	n, _, _ = parse.Parse(spec("type t is opns f : -> s endtype", ""))
	if ops, err := parse.Ops(n); len(ops) != 0 || err != api.OK {
		t.Errorf("Ops: %v %d", ops, err)
	}
	n.S = ""
	for _, x := range []api.Node{n, {}, {Kind: api.NdStop}, {Kind: api.NdOp, S: "_+_", N: 36}, {Kind: api.NdSpec, S: "x"}} {
		if ops, err := parse.Ops(x); ops != nil || err != api.ErrTree {
			t.Errorf("Ops(%v): %v %d", x, ops, err)
		}
	}
}

// P2.2: operations that can be told apart, and such that cannot.
func TestCheckOps(t *testing.T) {
	parts := func(n int) string { return strings.Repeat("a ", n) }
	var many []api.Mix
	for i := range api.MaxOps + 1 {
		many = append(many, mix("a"+strings.Repeat("b", i%16)+strings.Repeat("c", i/16), true, false, 1, 0))
	}
	for i, x := range []struct {
		ops []api.Mix
		err api.Errno
	}{
		{nil, api.OK}, {table(), api.OK}, {many[:api.MaxOps], api.OK}, {many, api.ErrMix},
		{[]api.Mix{mix("a b", false, false, 1, 0)}, api.OK}, {[]api.Mix{mix("a", false, false, 1, 0)}, api.ErrMix}, {[]api.Mix{mix("", true, true, 1, 0)}, api.ErrMix}, {[]api.Mix{mix(parts(8), true, true, 9, 2)}, api.OK}, {[]api.Mix{mix(parts(9), true, true, 9, 2)}, api.ErrMix},
		{[]api.Mix{mix("a", true, true, 0, 0)}, api.ErrMix}, {[]api.Mix{mix("a", true, true, 10, 0)}, api.ErrMix}, {[]api.Mix{mix("a", true, true, -1, 0)}, api.ErrMix}, {[]api.Mix{mix("a", true, true, 1, 3)}, api.ErrMix}, {[]api.Mix{mix("a", true, true, 1, -1)}, api.ErrMix},
		{[]api.Mix{mix("stop", true, true, 1, 0)}, api.ErrMix}, {[]api.Mix{mix("7", true, true, 1, 0)}, api.ErrMix}, {[]api.Mix{mix("a =", true, true, 1, 0)}, api.ErrMix}, {[]api.Mix{mix("a i", true, true, 1, 0)}, api.ErrMix}, {[]api.Mix{{Parts: []string{"a", ""}, Left: true, Prio: 1}}, api.ErrMix}, {[]api.Mix{{Parts: []string{" a"}, Left: true, Prio: 1}}, api.ErrMix}, {[]api.Mix{mix("_", true, true, 1, 0)}, api.ErrMix}, {[]api.Mix{mix(strings.Repeat("a", 33), true, true, 1, 0)}, api.ErrMix}, {[]api.Mix{mix(strings.Repeat("+", 32), true, true, 1, 0)}, api.OK},
		{[]api.Mix{mix("a", true, true, 1, 0), mix("a", false, true, 1, 0)}, api.OK}, {[]api.Mix{mix("a", true, true, 1, 0), mix("a", true, true, 1, 0)}, api.ErrMix}, {[]api.Mix{mix("a", true, true, 1, 0), mix("a", true, false, 1, 0)}, api.ErrMix}, {[]api.Mix{mix("a b", false, true, 1, 0), mix("a c", false, true, 1, 0)}, api.ErrMix}, {[]api.Mix{mix("a", true, true, 1, 0), mix("a", true, true, 2, 0)}, api.ErrMix}, {[]api.Mix{mix("a", true, true, 1, 0), mix("a", true, true, 1, 1)}, api.ErrMix}, {[]api.Mix{mix("a b", true, true, 1, 0), mix("b a", true, true, 1, 0)}, api.OK},
	} {
		if err := parse.CheckOps(x.ops); err != x.err {
			t.Errorf("CheckOps, %d: %d", i, err)
		}
		n, at, err := parse.Expr("z", x.ops)
		if err != x.err || at != 0 || (n.Kind == api.NdApp) != (err == api.OK) {
			t.Errorf("Expr, %d: %v %d %d", i, n, at, err)
		}
	}
}

// P2.1: operations of a text that cannot be told apart.
func TestMixOfText(t *testing.T) {
	nine := strings.Repeat("a_", 9)
	var many strings.Builder
	for i := range api.MaxOps {
		many.WriteString(strings.Repeat("+", 1+i%16) + strings.Repeat("-", 1+i/16) + "_:->s ")
	}
	for _, x := range []struct {
		ops string
		err api.Errno
	}{
		{nine + " : -> s", api.ErrMix}, {nine[:16] + " : -> s", api.OK}, {"_+_ : -> s _+_ : s, u -> u", api.OK}, {"_+_ : -> s _+ : s -> u", api.ErrMix}, {"_+_ (9 left) : -> s _+_ (9) : s -> u", api.ErrMix}, {"_+_ : -> s +_ : s -> u + : -> s", api.OK}, {"a_b_ : -> s a_c_ : s -> u", api.ErrMix}, {many.String(), api.OK}, {many.String() + "$_ : -> s", api.ErrMix},
	} {
		n, at, err := parse.Parse(spec("type t is opns "+x.ops+" endtype", ""))
		if at != 0 || err != x.err || (n.Kind == 0) == (err == api.OK) {
			t.Errorf("%.60q: %d %d", x.ops, at, err)
		}
	}
}

// P2.2
func TestMixName(t *testing.T) {
	for _, x := range []struct {
		mix  api.Mix
		want string
	}{
		{table()[0], "_+_"}, {table()[4], "-_"}, {table()[5], "_%"}, {table()[6], "if_then_else_"}, {mix("< >", false, false, 1, 0), "<_>"}, {mix("a b c", true, false, 9, 2), "_a_b_c"},
		{mix("a", false, false, 1, 0), ""}, {mix("of", true, false, 1, 0), ""}, {mix("a", true, false, 10, 0), ""}, {api.Mix{}, ""}, {mix("a", true, false, 1, 4), ""},
	} {
		err := api.OK
		if x.want == "" {
			err = api.ErrMix
		}
		if s, e := parse.MixName(x.mix); s != x.want || e != err {
			t.Errorf("MixName(%v): %q %d", x.mix, s, e)
		}
	}
}

func name(s string) api.Node { return api.Node{Kind: api.NdName, S: s} }

func list(l ...api.Node) api.Node { return api.Node{Kind: api.NdList, L: l} }

func app(s string, l ...api.Node) api.Node { return api.Node{Kind: api.NdApp, S: s, L: l} }

func kind(k int, l ...api.Node) api.Node { return api.Node{Kind: k, L: l} }

// specOf is the tree of a specification with operations, written as in a text, and a behaviour.
func specOf(ops string, b api.Node) api.Node {
	n, _, err := parse.Parse(spec("type t is opns "+ops+" endtype", ""))
	if err != api.OK {
		panic(ops)
	}
	n.L[4] = b
	return n
}

// P2.3: behaviours that stand in the tree of a text, and such that do not.
func TestCheckBehaviours(t *testing.T) {
	stop, none := kind(api.NdStop), list()
	pre := func(offers, conds, wins api.Node) api.Node {
		return kind(api.NdPre, name("a"), offers, conds, wins, stop)
	}
	eq := kind(api.NdEq, app("x"), app("0"))
	par := func(sign string, gates ...api.Node) api.Node {
		return api.Node{Kind: api.NdPar, S: sign, L: []api.Node{list(gates...), stop, stop}}
	}
	win := func(n int, l ...api.Node) api.Node { return api.Node{Kind: api.NdWin, N: n, L: l} }
	wait := func(n int) api.Node { return api.Node{Kind: api.NdWait, N: n, L: []api.Node{stop}} }
	take := api.Node{Kind: api.NdTake, S: "y", L: []api.Node{name("nat")}}
	call := func(s string, gates, values api.Node) api.Node {
		return api.Node{Kind: api.NdCall, S: s, L: []api.Node{gates, values}}
	}
	for i, x := range []struct {
		n   api.Node
		err api.Errno
	}{
		{stop, api.OK}, {kind(api.NdStop, stop), api.ErrTree}, {api.Node{Kind: api.NdStop, S: "x"}, api.ErrTree}, {api.Node{Kind: api.NdStop, N: 1}, api.ErrTree}, {api.Node{Kind: api.NdStop, At: 7, End: -9}, api.OK}, {api.Node{}, api.ErrTree}, {kind(99), api.ErrTree}, {kind(-1), api.ErrTree}, {app("x"), api.ErrTree}, {list(), api.ErrTree}, {kind(api.NdExit), api.OK}, {kind(api.NdExit, eq), api.ErrTree}, {kind(api.NdExit, kind(api.NdGive, app("x")), kind(api.NdAny, name("nat"))), api.OK}, {kind(api.NdExit, kind(api.NdGive)), api.ErrTree}, {kind(api.NdExit, kind(api.NdAny, name("7"))), api.ErrTree},
		{pre(none, none, none), api.OK}, {pre(none, list(eq), none), api.ErrTree}, {pre(list(take), list(eq), none), api.OK}, {pre(list(take, take), list(eq, eq), list(win(2, name("3")))), api.OK}, {pre(list(kind(api.NdAny, name("nat"))), none, none), api.ErrTree}, {pre(none, none, list(win(1, name("3")), win(1, name("3")))), api.ErrTree}, {pre(none, none, list(win(1, name("03")))), api.ErrTree}, {pre(none, none, list(win(0, name("3")))), api.ErrTree}, {pre(none, none, list(win(3, name("3")))), api.ErrTree}, {pre(none, none, list(win(3, name("3"), name("0")))), api.OK}, {pre(none, none, list(win(2, name("3"), name("4")))), api.ErrTree}, {pre(none, none, list(win(1, name("x")))), api.ErrTree}, {pre(none, none, list(win(1, name("2147483648")))), api.ErrTree}, {pre(eq, none, none), api.ErrTree},
		{kind(api.NdPre, name("i"), none, none, none, stop), api.OK}, {kind(api.NdPre, name("stop"), none, none, none, stop), api.ErrTree}, {kind(api.NdPre, name("a"), none, none, none), api.ErrTree}, {kind(api.NdPre, name("a"), none, none, none, stop, stop), api.ErrTree}, {kind(api.NdPre, app("a"), none, none, none, stop), api.ErrTree}, {kind(api.NdPre), api.ErrTree},
		{par("|||"), api.OK}, {par("||"), api.OK}, {par("|["), api.ErrTree}, {par("|[", name("a")), api.OK}, {par("|||", name("a")), api.ErrTree}, {par("||", name("a")), api.ErrTree}, {par("|[", name("i")), api.ErrTree}, {par(""), api.ErrTree}, {par("|"), api.ErrTree}, {par("|["+"a]|", name("b")), api.ErrTree},
		{wait(0), api.OK}, {wait(api.MaxNum), api.OK}, {wait(api.MaxNum + 1), api.ErrTree}, {wait(-1), api.ErrTree}, {kind(api.NdWait), api.ErrTree},
		{kind(api.NdHide, list(name("a")), stop), api.OK}, {kind(api.NdHide, list(name("z"), name("A"), name("Z"), name("zZ9'")), stop), api.OK}, {kind(api.NdHide, list(), stop), api.ErrTree}, {kind(api.NdHide, list(name("")), stop), api.ErrTree}, {kind(api.NdHide, list(name("a b")), stop), api.ErrTree}, {kind(api.NdHide, list(name("a, b")), stop), api.ErrTree}, {kind(api.NdHide, list(name("a(**)")), stop), api.ErrTree}, {kind(api.NdHide, list(name(strings.Repeat("a", 33))), stop), api.ErrTree}, {kind(api.NdHide, list(name("+")), stop), api.ErrTree}, {kind(api.NdHide, name("a"), stop), api.ErrTree},
		{kind(api.NdSome, list(api.Node{Kind: api.NdDecl, S: "x", L: []api.Node{name("nat")}}), stop), api.OK}, {kind(api.NdSome, list(take), stop), api.ErrTree}, {kind(api.NdSome, list(), stop), api.ErrTree}, {kind(api.NdPick, list(api.Node{Kind: api.NdGate, S: "g", L: []api.Node{list(name("a"))}}), stop), api.OK}, {kind(api.NdPick, list(api.Node{Kind: api.NdGate, S: "g", L: []api.Node{name("a")}}), stop), api.ErrTree}, {kind(api.NdPick, list(api.Node{Kind: api.NdGate, S: "g"}), stop), api.ErrTree}, {kind(api.NdLet, list(api.Node{Kind: api.NdBind, S: "x", L: []api.Node{name("nat"), app("0")}}), stop), api.OK}, {kind(api.NdLet, list(api.Node{Kind: api.NdBind, S: "x", L: []api.Node{name("nat")}}), stop), api.ErrTree},
		{call("P", none, none), api.OK}, {call("P", list(name("a")), list(app("x"))), api.OK}, {call("i", none, none), api.ErrTree}, {call("P", none, list(stop)), api.ErrTree}, {call("P", list(app("a")), none), api.ErrTree}, {call("P", none, list(kind(api.NdGive, app("x")))), api.ErrTree},
		{kind(api.NdChoice, stop, stop), api.OK}, {kind(api.NdChoice, stop), api.ErrTree}, {kind(api.NdChoice, stop, stop, stop), api.ErrTree}, {kind(api.NdEnable, none, stop, stop), api.OK}, {kind(api.NdEnable, stop, stop), api.ErrTree}, {kind(api.NdEnable, list(take), stop, stop), api.ErrTree}, {kind(api.NdGuard, none, stop), api.ErrTree}, {kind(api.NdGuard, list(eq), stop), api.OK}, {kind(api.NdGuard, list(kind(api.NdEq, app("x"))), stop), api.ErrTree}, {kind(api.NdGuard, list(kind(api.NdEq, app("x"), stop)), stop), api.ErrTree},
	} {
		if err := parse.Check(specOf("f : -> s", x.n)); err != x.err {
			t.Errorf("Check, %d: %d", i, err)
		}
	}
}

// P2.3: expressions that stand in the tree of a text, and such that do not.
func TestCheckExpressions(t *testing.T) {
	a := app("a")
	of := func(s string, l ...api.Node) api.Node { return api.Node{Kind: api.NdOf, S: s, L: l} }
	marks := "_+_ (5 left), -_ (6), _% (4), if_then_ (1), <_> (2), $_then (3) : -> s"
	clash := marks + " _then_ (5) : -> s"
	for i, x := range []struct {
		ops string
		n   api.Node
		err api.Errno
	}{
		{marks, a, api.OK}, {marks, app("a", a, a), api.OK}, {marks, app("7"), api.OK}, {marks, app("7", a), api.ErrTree}, {marks, app("07"), api.ErrTree}, {marks, app("2147483648"), api.ErrTree}, {marks, app("-7"), api.ErrTree}, {marks, app(""), api.ErrTree}, {marks, app("stop"), api.ErrTree}, {marks, app("of"), api.ErrTree}, {marks, app("a b"), api.ErrTree}, {marks, app("(a)"), api.ErrTree}, {marks, app("a+b"), api.ErrTree}, {marks, app("="), api.ErrTree}, {marks, api.Node{Kind: api.NdApp, S: "a", N: 1}, api.ErrTree}, {marks, kind(api.NdStop), api.ErrTree}, {marks, name("a"), api.ErrTree}, {marks, app("a", name("b")), api.ErrTree},
		{marks, app("_+_", a, a), api.OK}, {marks, app("_+_", a), api.ErrTree}, {marks, app("_+_", a, a, a), api.ErrTree}, {marks, app("_+_"), api.ErrTree}, {marks, app("_*_", a, a), api.ErrTree}, {marks, app("+"), api.OK}, {marks, app("+", a), api.OK}, {marks, app("-"), api.ErrTree}, {marks, app("-", a), api.ErrTree}, {marks, app("if"), api.ErrTree}, {marks, app("<"), api.ErrTree}, {marks, app(">"), api.OK}, {marks, app("then"), api.OK}, {marks, app("%", a), api.OK}, {"_+_ : -> s", app("-"), api.OK},
		{marks, of("nat", a), api.OK}, {marks, of("nat", of("s", app("-_", a))), api.OK}, {marks, of("nat"), api.ErrTree}, {marks, of("nat", a, a), api.ErrTree}, {marks, of("7", a), api.ErrTree}, {marks, of("+", a), api.ErrTree}, {marks, of("", a), api.ErrTree},
		{marks, app("_+_", app("_+_", a, a), app("_+_", a, a)), api.OK}, {marks, app("_%", app("_%", app("if_then_", a, a))), api.OK}, {marks, app("-_", app("if_then_", app("if_then_", a, a), app("<_>", app("_%", a)))), api.OK}, {marks, app("_+_", of("nat", app("_%", a)), app("-_", app("_%", a))), api.OK}, {marks, app("if_then_", app("$_then", a), a), api.OK},
		{clash, app("_then_", a, a), api.OK}, {clash, app("if_then_", a, a), api.ErrTree}, {clash, app("if_then_", app("_%", a), a), api.OK}, {clash, app("if_then_", app("_+_", a, a), a), api.OK}, {clash, app("if_then_", app("-_", a), a), api.ErrTree}, {clash, app("$_then", app("_+_", a, a)), api.OK}, {clash, app("$_then", app("_+_", a, app("-_", a))), api.OK}, {clash, app("$_then", app("_then_", a, a)), api.OK}, {clash, app("$_then", app("<_>", a)), api.ErrTree}, {clash, app("f", app("if_then_", app("_%", app("_then_", a, a)), a)), api.OK},
	} {
		b := kind(api.NdExit, kind(api.NdGive, x.n))
		if err := parse.Check(specOf(x.ops, b)); err != x.err {
			t.Errorf("Check, %d: %d", i, err)
		}
	}
}

// P2.3: types, processes and what is around them.
func TestCheckTypes(t *testing.T) {
	base := func() api.Node {
		n, _, _ := parse.Parse(spec("library a endlib type t is a, b sorts s opns _+_ (5 left) : s, s -> s eqns forall x : s ofsort s x = x; endtype type u is t renamedby sortnames a for b endtype type v is t actualizedby u using opnnames _#_ for _+_ endtype", "where process P : exit (s) := stop endproc"))
		return n
	}
	types := func(n *api.Node) []api.Node { return n.L[3].L }
	to := func(a, b string) api.Node { return kind(api.NdTo, name(a), name(b)) }
	op := func(s string, n int, l ...api.Node) api.Node { return api.Node{Kind: api.NdOp, S: s, N: n, L: l} }
	for i, x := range []struct {
		change func(n *api.Node)
		err    api.Errno
	}{
		{func(n *api.Node) {}, api.OK}, {func(n *api.Node) { n.Kind = api.NdProc }, api.ErrTree}, {func(n *api.Node) { n.S = "i" }, api.ErrTree}, {func(n *api.Node) { n.N = 1 }, api.ErrTree}, {func(n *api.Node) { n.L = n.L[:5] }, api.ErrTree}, {func(n *api.Node) { n.L = append(n.L, list()) }, api.ErrTree}, {func(n *api.Node) { n.L[2].N = 2 }, api.ErrTree}, {func(n *api.Node) { n.L[2].L = []api.Node{name("s")} }, api.ErrTree}, {func(n *api.Node) { n.L[2].N = 1 }, api.OK}, {func(n *api.Node) { n.L[0] = list(name("a"), name("a")) }, api.OK}, {func(n *api.Node) { n.L[1] = list(name("a")) }, api.ErrTree},
		{func(n *api.Node) { n.L[5].L = append(n.L[5].L, types(n)[0]) }, api.ErrTree}, {func(n *api.Node) { n.L[5].L = append(n.L[5].L, types(n)[1]) }, api.OK}, {func(n *api.Node) { n.L[3].L = append(n.L[3].L, n.L[5].L[0]) }, api.ErrTree}, {func(n *api.Node) { n.L[5].L[0].L[2].L = append(n.L[5].L[0].L[2].L, name("s")) }, api.OK}, {func(n *api.Node) { n.L[5].L[0].L[4] = parse.Bare(*n) }, api.ErrTree}, {func(n *api.Node) { n.L[5].L = append(n.L[5].L, parse.Bare(*n)) }, api.ErrTree},
		{func(n *api.Node) { types(n)[0].L = nil }, api.ErrTree}, {func(n *api.Node) { types(n)[0].S = "x" }, api.ErrTree}, {func(n *api.Node) { types(n)[1].L[1] = list(name("f")) }, api.OK}, {func(n *api.Node) { types(n)[1].L[1] = list(name("7")) }, api.ErrTree}, {func(n *api.Node) { types(n)[1].L = types(n)[1].L[:6] }, api.ErrTree}, {func(n *api.Node) { types(n)[1].L[6].L[0].S = "7" }, api.ErrTree}, {func(n *api.Node) {
			types(n)[1].L[6].L[0].L[1].L[0].L[0] = list(kind(api.NdEq, app("x"), app("_+_", app("a"), app("b"))))
		}, api.OK}, {func(n *api.Node) { types(n)[1].L[6].L[0].L[1].L[0].Kind = api.NdEq }, api.ErrTree}, {func(n *api.Node) { types(n)[1].L[6].L[0].L[1] = list() }, api.OK}, {func(n *api.Node) { types(n)[1].L[6].L[0].L[0] = list() }, api.OK},
		{func(n *api.Node) { types(n)[1].L[5].L[0].N = 36 }, api.OK}, {func(n *api.Node) { types(n)[1].L[5].L[0].N = 38 }, api.OK}, {func(n *api.Node) { types(n)[1].L[5].L[0].N = 39 }, api.ErrTree}, {func(n *api.Node) { types(n)[1].L[5].L[0].N = 40 }, api.ErrTree}, {func(n *api.Node) { types(n)[1].L[5].L[0].N = 3 }, api.ErrTree}, {func(n *api.Node) { types(n)[1].L[5].L[0].N = -3 }, api.ErrTree}, {func(n *api.Node) { types(n)[1].L[5].L[0].N = 0 }, api.ErrTree}, {func(n *api.Node) { types(n)[1].L[5].L[0].S = "_+_+" }, api.OK}, {func(n *api.Node) { types(n)[1].L[5].L[0].S = "_+__" }, api.ErrTree}, {func(n *api.Node) { types(n)[1].L[5].L[0].S = "_" }, api.ErrTree}, {func(n *api.Node) { types(n)[1].L[5].L[0].S = "__" }, api.ErrTree}, {func(n *api.Node) { types(n)[1].L[5].L[0].S = "_ +_" }, api.ErrTree}, {func(n *api.Node) { types(n)[1].L[5].L[0].S = "_7_" }, api.ErrTree}, {func(n *api.Node) { types(n)[1].L[5].L[0].S = "+" }, api.ErrTree}, {func(n *api.Node) { types(n)[1].L[5].L[0].L = types(n)[1].L[5].L[0].L[:1] }, api.ErrTree}, {func(n *api.Node) { types(n)[1].L[5].L[0].L = nil }, api.ErrTree},
		{func(n *api.Node) { types(n)[1].L[5].L = append(types(n)[1].L[5].L, op("f", 36, list(), name("s"))) }, api.OK}, {func(n *api.Node) { types(n)[1].L[5].L = append(types(n)[1].L[5].L, op("f", 21, list(), name("s"))) }, api.ErrTree}, {func(n *api.Node) { types(n)[1].L[5].L = append(types(n)[1].L[5].L, op("7", 36, list(), name("s"))) }, api.OK}, {func(n *api.Node) { types(n)[1].L[5].L = append(types(n)[1].L[5].L, op("_+_", 20, list(), name("s"))) }, api.ErrTree}, {func(n *api.Node) { types(n)[1].L[2].L = append(types(n)[1].L[2].L, op("_+_", 21, list(), name("s"))) }, api.OK}, {func(n *api.Node) { types(n)[1].L[5].L = append(types(n)[1].L[5].L, op("_-_", 7, list(), name("s"))) }, api.ErrTree}, {func(n *api.Node) { types(n)[1].L[5].L = append(types(n)[1].L[5].L, op("", 36, list(), name("s"))) }, api.ErrTree},
		{func(n *api.Node) { types(n)[2].L[1] = list(to("a", "b"), to("7", "_x_")) }, api.OK}, {func(n *api.Node) { types(n)[2].L[1] = list(to("a", "_b_"), to("c", "d")) }, api.ErrTree}, {func(n *api.Node) { types(n)[2].L[1] = list(to("a", "b_"), to("_c", "d")) }, api.OK}, {func(n *api.Node) { types(n)[2].L[1] = list(to("a", "b"), to("_c", "d")) }, api.ErrTree}, {func(n *api.Node) { types(n)[2].L[1] = list(to("a", "7"), to("_c", "d")) }, api.OK}, {func(n *api.Node) { types(n)[2].L[1] = list(to("a", "")) }, api.ErrTree}, {func(n *api.Node) { types(n)[2].L[1] = list(name("a")) }, api.ErrTree}, {func(n *api.Node) { types(n)[2].L[1] = list(to("a", strings.Repeat("b_", 300))) }, api.OK},
		{func(n *api.Node) { types(n)[3].L[1] = list() }, api.ErrTree}, {func(n *api.Node) { types(n)[3].L[1] = list(name("a"), name("b")) }, api.OK}, {func(n *api.Node) { types(n)[3].Kind = api.NdRename }, api.ErrTree}, {func(n *api.Node) { types(n)[2].Kind = api.NdActual }, api.ErrTree},
	} {
		n := base()
		x.change(&n)
		if err := parse.Check(n); err != x.err {
			t.Errorf("Check, %d: %d", i, err)
		}
	}
}

// P2.3: behaviours with the brackets that they need, which stand where they spare a blank.
func TestShortestBehaviours(t *testing.T) {
	for _, x := range []string{
		" P>>Q>>R", "(P>>Q)>>R", "(P>>Q)[>R", " P[>(Q>>R)", " P[>Q>>R", " P[>Q[>R", "(P[>Q)[>R", "(P[>Q)|||R", " P|||(Q[>R)", " P|||Q[>R", " P[>Q|||R", " P|||Q|||R", "(P|||Q)|||R", "(P|||Q)[]R", " P[](Q|||R)", " P[]Q|||R", " P|||Q[]R", " P[]Q[]R", "(P[]Q)[]R", " a;(P[]Q)", " a;P[]Q", "[x=y]->(P>>Q)", " wait 3;(P|||Q)", " a;[x=y]->wait 3;P", " P>>accept x,y:nat,z:bool in Q>>R", " P>>accept x:nat in(Q>>R)>>S",
		" hide a in P>>Q", "(hide a in P)>>Q", "(hide a in P)[]Q", "(let x:nat=0,y:nat=x in P)[>Q", "(choice x:nat[]P)|||Q", "(choice g in[a,b],h in[a][]P)||Q", " P[]hide a in Q|||R", " hide a in hide b in P", " hide a in(hide b in P)>>Q", "(a;hide a in P)[]Q", "(P[]hide a in Q)|||R", "(P|||hide a in Q)[>R", "(P[>hide a in Q)>>R", "(wait 3;hide a in P)[]Q", "([x=y]->hide a in P)[]Q", "(a;wait 3;[x=y]->hide a in P)[]Q", "(P[>Q|||R[]a;hide a in S)>>P", "(P[>Q[>hide a in R)>>S", "(P|||Q|||hide a in R)>>S", "(P[]Q[]hide a in R)>>S",
		" P[>(Q>>hide a in R)>>S", " P|||(Q[>hide a in R)[>S", " P[](Q|||hide a in R)|||S", " a;(P[]hide a in Q)[]R", "[x=y]->(P[]hide a in Q)[]R", " wait 3;(P[]hide a in Q)[]R", " P[](hide a in Q)[]R", " a;P[]hide a in Q", " P>>hide a in Q", " g!x?y,z:nat?u:bool!y[x=y,z=u]{2..5};i{3};j{0..};stop", " exit(x,any nat)", " P[a,b](x,y)", " P[a] |||Q", " P||Q",
	} {
		text := "specification x:noexit behaviour" + x + " endspec"
		if strings.HasSuffix(x, ")") {
			text = "specification x:noexit behaviour" + x + "endspec"
		}
		holdShortest(t, text)
	}
}

func holdShortest(t *testing.T, text string) {
	t.Helper()
	n, at, err := parse.Parse(text)
	if err != api.OK {
		t.Errorf("%q: %d %d", text, at, err)
		return
	}
	if s, err := parse.Shortest(n); s != text || err != api.OK || parse.Check(n) != api.OK {
		t.Errorf("%q: %q %d", text, s, err)
	}
}

// P2.3: expressions with the brackets that they need, which stand where they spare a blank.
func TestShortestOfTable(t *testing.T) {
	for _, x := range []string{
		"a+b+c", "a+(b+c)", "(a^b)^c", "a^b^c", "a*b+c", "(a+b)*c", "a<b+c", "(a<b)<c", "-a*b", "(-a)*b", "(- -a)*b", "-a+b", "-(a+b)", "a+ -b", "a^(-b)", "(-a)^b", "(a^b)/c", "a^b/c", "a/b/c", "a/(b^c)", "(a^b^c)/a", "(a*b)%", "a*b%", "(-a)%", "-a%", "a%of nat", "(a+b)of nat", "(-a)of nat", "-a of nat", "a of nat+b",
		"if a then b else c+d", "(if a then b else c)+d", "a+(if b then c else d)", "if if a then b else c then d else a", "f(a+b,-c,(d+a)*b)", "a+ +", "f( *)",
		"a*(b post)of nat", "a*(b~of nat)", "a*(b~of nat)of nat", "a*(b~of nat^c)", "a*(b~of nat)up c", "if a*(b~of nat)then b else c", "a*(b~of nat^c up d)", "b~of nat*a", "-(b post)of nat",
	} {
		holdShortest(t, "specification x:noexit type t is opns_+_(5 left),_*_(6 left),_^_(7 right),_/_(7 left),_<_(3),-_(6),_%(8),_~(4),_post(4),_up_(8 left),if_then_else_(1):->s endtype behaviour exit("+x+")endspec")
	}
}

// P2.3: the tree of a text whose shortest text is as long as can be, or longer.
func TestCheckLimits(t *testing.T) {
	gates := func(n int, s string) api.Node {
		x := specOf("f : -> s", kind(api.NdStop))
		x.L[0] = list(slices.Repeat([]api.Node{name(s)}, n)...)
		x.L[3] = list()
		return x
	}
	// specification x [ .. ] : noexit behaviour stop endspec: 9 tokens, and 2 a gate but for one.
	fit := (api.MaxTokens - 8) / 2
	// "specification x[" and "]:noexit behaviour stop endspec": 47 bytes, and 33 a gate but for one.
	long, last := (api.MaxText-46)/33, (api.MaxText-46)%33
	name32 := strings.Repeat("a", 32)
	exact := gates(long, name32)
	exact.L[0].L = append(exact.L[0].L, name(strings.Repeat("a", last-1)))
	beyond := gates(long, name32)
	beyond.L[0].L = append(beyond.L[0].L, name(strings.Repeat("a", last)))
	deep := func(n int) api.Node {
		b := kind(api.NdStop)
		for range n {
			b = kind(api.NdPre, name("a"), list(), list(), list(), b)
		}
		return specOf("f : -> s", b)
	}
	for i, x := range []struct {
		n   api.Node
		err api.Errno
	}{
		{gates(fit, "a"), api.OK}, {gates(fit+1, "a"), api.ErrTree}, {gates(long, name32), api.OK}, {gates(long+1, name32), api.ErrTree}, {exact, api.OK}, {beyond, api.ErrTree}, {deep(api.MaxUnder - 2), api.OK}, {deep(api.MaxUnder - 1), api.ErrTree}, {deep(60000), api.ErrTree}, {gates(1, strings.Repeat("a", 10000000)), api.ErrTree}, {gates(api.MaxTree, "a"), api.ErrTree},
	} {
		if err := parse.Check(x.n); err != x.err {
			t.Errorf("Check, %d: %d", i, err)
		}
	}
	if s, err := parse.Shortest(exact); len(s) != api.MaxText || err != api.OK {
		t.Errorf("%d bytes, %d", len(s), err)
	}
	if s, err := parse.Shortest(gates(fit, "a")); err != api.OK || len(tokensOf(s)) != api.MaxTokens {
		t.Errorf("%d bytes, %d", len(s), err)
	}
	hostile := specOf("f : -> s", kind(api.NdStop))
	hostile.L[3].L[0].L[5].L[0].S = strings.Repeat("_", 50000000)
	if err := parse.Check(hostile); err != api.ErrTree {
		t.Errorf("Check of an endless name: %d", err)
	}
}

// P2.3
func TestSameAndBare(t *testing.T) {
	a := api.Node{Kind: 99, N: -3, S: "x", At: 5, End: 2, L: []api.Node{{Kind: 1, At: 3, L: []api.Node{}}, {S: "y", End: -1}}}
	bare := parse.Bare(a)
	if !parse.Same(a, bare) || !parse.Same(bare, a) || bare.At != 0 || bare.End != 0 || bare.L[0].At != 0 || bare.L[1].End != 0 {
		t.Errorf("Bare: %v", bare)
	}
	bare.L[0].S = "z"
	if a.L[0].S != "" || parse.Same(a, bare) {
		t.Error("Bare shares memory with its argument, or Same does not see S")
	}
	for i, change := range []func(n *api.Node){func(n *api.Node) { n.Kind = 1 }, func(n *api.Node) { n.N = 0 }, func(n *api.Node) { n.S = "" }, func(n *api.Node) { n.L = n.L[:1] }, func(n *api.Node) { n.L = append(n.L, api.Node{}) }, func(n *api.Node) { n.L[1].S = "" }, func(n *api.Node) { n.L[0], n.L[1] = n.L[1], n.L[0] }, func(n *api.Node) { n.L[0].L = []api.Node{{}} }} {
		b := parse.Bare(a)
		change(&b)
		if parse.Same(a, b) || parse.Same(b, a) {
			t.Errorf("Same, %d", i)
		}
	}
	if !parse.Same(api.Node{}, api.Node{L: []api.Node{}}) {
		t.Error("Same of nil and an empty list")
	}
}

// P2.3
func TestSize(t *testing.T) {
	deep := api.Node{}
	for range 65000 {
		deep = api.Node{L: []api.Node{deep}}
	}
	for i, x := range []struct {
		n           api.Node
		nodes, deep int
	}{
		{api.Node{}, 1, 1}, {app("f", app("a"), app("g", app("b"))), 4, 3}, {app("f", app("g", app("b")), app("a")), 4, 3}, {list(list(), list()), 3, 2}, {deep, 65001, 65001},
	} {
		if nodes, deep := parse.Size(x.n); nodes != x.nodes || deep != x.deep {
			t.Errorf("Size, %d: %d %d", i, nodes, deep)
		}
	}
}

// P2.3
func TestAround(t *testing.T) {
	text := "g !x ?y, z : nat; P[a](f(x))"
	n, _, err := parse.Behaviour(text, nil)
	if err != api.OK {
		t.Fatal(err)
	}
	for _, x := range []struct {
		at  int
		way []int
		is  bool
	}{
		{0, []int{0}, true}, {1, nil, true}, {2, []int{1, 0}, true}, {3, []int{1, 0, 0}, true}, {4, []int{1}, true}, {6, []int{1, 1}, true}, {7, []int{1}, true}, {9, []int{1, 2}, true}, {13, nil, true}, {16, nil, true}, {18, []int{4}, true}, {19, []int{4, 0}, true}, {20, []int{4, 0, 0}, true}, {22, []int{4}, true}, {23, []int{4, 1, 0}, true}, {25, []int{4, 1, 0, 0}, true}, {27, []int{4}, true},
		{28, nil, false}, {-1, nil, false}, {1 << 62, nil, false}, {-1 << 63, nil, false},
	} {
		if way, is := parse.Around(n, x.at); !slices.Equal(way, x.way) || is != x.is {
			t.Errorf("Around(%d): %v %v", x.at, way, is)
		}
	}
	odd := api.Node{At: 2, End: 9, L: []api.Node{{At: 3, End: 3}, {At: 0, End: 5}, {At: 3, End: 5, L: []api.Node{{At: 4, End: 5}}}, {At: 7, End: 6}}}
	for _, x := range []struct {
		at  int
		way []int
		is  bool
	}{{4, []int{1}, true}, {3, []int{1}, true}, {1, nil, false}, {6, nil, true}, {9, nil, false}} {
		if way, is := parse.Around(odd, x.at); !slices.Equal(way, x.way) || is != x.is {
			t.Errorf("Around(%d) of an odd tree: %v %v", x.at, way, is)
		}
	}
}

// The rule R2: results share no memory, neither with arguments nor within themselves.
func TestNewMemory(t *testing.T) {
	ops := table()
	n, _, err := parse.Expr("a + b", ops)
	if err != api.OK {
		t.Fatal(err)
	}
	n.L[0].S = "z"
	if again, _, _ := parse.Expr("a + b", ops); again.L[0].S != "a" || ops[0].Parts[0] != "+" {
		t.Error("a result is kept")
	}
	n, _, err = parse.Parse(spec("type t is opns f, g : s, u -> s eqns forall x, y : s ofsort s x = y; endtype", ""))
	if err != api.OK {
		t.Fatal(err)
	}
	before := parse.Bare(n)
	l := n.L[3].L[0].L
	l[5].L[0].L[0].L[1].S = "z"
	l[5].L[0].L[1].S = "z"
	l[6].L[0].L[0].L[0].L[0].S = "z"
	for _, way := range [][]int{{5, 1, 0, 1}, {5, 1, 1}, {6, 0, 0, 1, 0}} {
		x, y := n.L[3].L[0], before.L[3].L[0]
		for _, i := range way {
			x, y = x.L[i], y.L[i]
		}
		if x.S != y.S {
			t.Errorf("%v shares memory", way)
		}
	}
}
