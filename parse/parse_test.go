package parse_test

import (
	"strconv"
	"strings"
	"testing"

	"madrigal/api"
	"madrigal/parse"
)

var kindNames = map[int]string{
	api.NdSpec: "spec", api.NdProc: "proc", api.NdLib: "lib", api.NdType: "type", api.NdRename: "rename", api.NdActual: "actual", api.NdDecl: "decl", api.NdFunc: "func", api.NdOp: "op", api.NdEqns: "eqns", api.NdEqn: "eqn", api.NdEq: "eq", api.NdTo: "to",
	api.NdStop: "stop", api.NdExit: "exit", api.NdPre: "pre", api.NdChoice: "choice", api.NdPar: "par", api.NdHide: "hide", api.NdEnable: "enable", api.NdDisable: "disable", api.NdGuard: "guard", api.NdLet: "let", api.NdSome: "some", api.NdPick: "pick", api.NdCall: "call", api.NdWait: "wait",
	api.NdGive: "give", api.NdTake: "take", api.NdAny: "any", api.NdWin: "win", api.NdBind: "bind", api.NdGate: "gate", api.NdOf: "of",
}

// shown writes a tree as the tables below do: a name behind a ".", an expression as it is, a list in brackets, and all else by a word, with S and N if there are some.
func shown(n api.Node) string {
	var l []string
	for _, x := range n.L {
		l = append(l, shown(x))
	}
	s := kindNames[n.Kind]
	switch n.Kind {
	case api.NdList:
		return "[" + strings.Join(l, " ") + "]"
	case api.NdName:
		s = "."
	case api.NdApp:
		s = ""
	default:
		if n.S != "" {
			s += ":"
		}
	}
	s += n.S
	if n.N != 0 {
		s += "#" + strconv.Itoa(n.N)
	}
	if len(l) > 0 {
		s += "(" + strings.Join(l, " ") + ")"
	}
	return s
}

// placed writes for each node what its place has of the text, and for one without tokens where it stands.
func placed(text string, n api.Node) string {
	s := "@" + strconv.Itoa(n.At)
	if n.End != n.At {
		s = text[n.At:n.End]
	}
	for _, x := range n.L {
		s += "|" + placed(text, x)
	}
	return s
}

// table: the operations of the chapter's examples.
func table() []api.Mix {
	return []api.Mix{
		{Parts: []string{"+"}, Left: true, Right: true, Prio: 5, Side: api.SideLeft},
		{Parts: []string{"*"}, Left: true, Right: true, Prio: 6, Side: api.SideLeft},
		{Parts: []string{"^"}, Left: true, Right: true, Prio: 7, Side: api.SideRight},
		{Parts: []string{"<"}, Left: true, Right: true, Prio: 3},
		{Parts: []string{"-"}, Right: true, Prio: 6},
		{Parts: []string{"%"}, Left: true, Prio: 8},
		{Parts: []string{"if", "then", "else"}, Right: true, Prio: 1},
	}
}

type reading struct {
	text, want string
	at         int
	err        api.Errno
}

// hold compares what is read with what has to be.
func (x reading) hold(t *testing.T, n api.Node, at int, err api.Errno) {
	t.Helper()
	if x.err != api.OK && (n.Kind != 0 || n.N != 0 || n.S != "" || len(n.L) != 0 || n.At != 0 || n.End != 0) {
		t.Errorf("%.200q: a tree with an error: %v", x.text, n)
	}
	if x.err == api.OK && shown(n) != x.want || at != x.at || err != x.err {
		t.Errorf("%.200q: %s %d %d", x.text, shown(n), at, err)
	}
}

func good(text, want string) reading { return reading{text: text, want: want} }

func bad(text string, at int) reading { return reading{text: text, at: at, err: api.ErrSyntax} }

func wrong(text string, at int) reading { return reading{text: text, at: at, err: api.ErrExpr} }

// P2.1, P2.12: expressions by the operations of the examples.
func TestExpr(t *testing.T) {
	for _, x := range []reading{
		good("a + b * c", "_+_(a _*_(b c))"), good("a + b + c", "_+_(_+_(a b) c)"), good("a * b + c", "_+_(_*_(a b) c)"), good("a ^ b ^ c", "_^_(a _^_(b c))"),
		good("- a + b", "_+_(-_(a) b)"), good("- a ^ b", "-_(_^_(a b))"), good("a + - b", "_+_(a -_(b))"), good("- a * b", "-_(_*_(a b))"), good("- - a", "-_(-_(a))"), good("a + - b * c + d", "_+_(_+_(a -_(_*_(b c))) d)"),
		good("f(a, b) of nat", "of:nat(f(a b))"), good("s(0)%", "_%(s(0))"), good("a of nat of bool", "of:bool(of:nat(a))"), good("- a of nat", "-_(of:nat(a))"), good("a + b of nat", "_+_(a of:nat(b))"), good("a % of nat", "of:nat(_%(a))"),
		good("a ^ b %", "_^_(a _%(b))"), good("(a %) %", "_%(_%(a))"), good("- a %", "-_(_%(a))"), good("(- a) %", "_%(-_(a))"), good("(a ^ b) % of nat ^ c", "_^_(of:nat(_%(_^_(a b))) c)"),
		good("if a < b then a else b + c", "if_then_else_(_<_(a b) a _+_(b c))"), good("if a then b else if c then d else e < f", "if_then_else_(a b if_then_else_(c d _<_(e f)))"),
		good("if if a then b else c then d else e", "if_then_else_(if_then_else_(a b c) d e)"), good("f(if a then b else c, d)", "f(if_then_else_(a b c) d)"), good("a + (if a then b else c)", "_+_(a if_then_else_(a b c))"),
		good("((a))", "a"), good("(a + b) * c", "_*_(_+_(a b) c)"), good("(a < b) < c", "_<_(_<_(a b) c)"), good("a < (b < c)", "_<_(a _<_(b c))"), good("a ^ (- b)", "_^_(a -_(b))"), good("(a)%", "_%(a)"),
		good("+", "+"), good("+ + +", "_+_(+ +)"), good("+(a)", "+(a)"), good("%", "%"), good("%(a, b)", "%(a b)"), good("then(a)", "then(a)"), good("if then then else else then", "if_then_else_(then else then)"),
		good("007", "7"), good("0", "0"), good("f(007)", "f(7)"), good("2147483647", "2147483647"), good("f(((a)), (b) + c)", "f(a _+_(b c))"), good("f(g(h(a)))", "f(g(h(a)))"), good("$$", "$$"), good("$$(a)", "$$(a)"), good("x'", "x'"),
		good("a (* b *) +\n\tc", "_+_(a c)"),
		wrong("a < b < c", 6), wrong("a ^ - b", 4), wrong("a * if b then c else d", 4), wrong("a %%", 2), wrong("a % %", 4), wrong("a b", 2), wrong("(a", 2), wrong("(a ", 3), wrong("(a b)", 3), wrong("f()", 2), wrong("f(a,)", 4), wrong("f(,a)", 2), wrong("f(a b)", 4),
		wrong("f((a,b))", 4), wrong("(a, b)", 2), wrong("()", 1), wrong("a of 3", 5), wrong("a of", 4), wrong("a of +", 5), wrong("a of (nat)", 5), wrong("of", 0), wrong("of nat", 0), wrong("a + of nat", 4), wrong("7(a)", 1), wrong("7 8", 2), wrong("(a)(b)", 3), wrong("a of nat(b)", 8),
		wrong("-", 1), wrong("- ", 2), wrong("a +", 3), wrong("a + ", 4), wrong("if a else b", 5), wrong("if a then b", 11), wrong("if a then b else", 16), wrong("(if a then b) else c", 12), wrong("if (a then b) else c", 6), wrong("f(a", 3), wrong("- then else", 7), wrong("if", 2), wrong("$ a", 2),
		bad("", 0), bad(" ", 1), bad("(* a *)", 7), bad("a)", 1), bad("a, b", 1), bad(")", 0), bad(",", 0), bad("(a;", 2), bad("(a))", 3), bad("a = b", 2), bad("a [", 2), bad("a exit", 2), bad("i", 0), bad("a ! b", 2), bad("a _", 2), bad("f(stop)", 2),
		{text: "a |", at: 2, err: api.ErrLex}, {text: "(* (* *)", err: api.ErrLex}, {text: "; 12b", at: 2, err: api.ErrLex},
	} {
		n, at, err := parse.Expr(x.text, table())
		x.hold(t, n, at, err)
	}
}

// P2.1, P2.12: which sides and priorities let operations stand within each other.
func TestSides(t *testing.T) {
	ops := []api.Mix{
		{Parts: []string{"l"}, Left: true, Right: true, Prio: 4, Side: api.SideLeft}, {Parts: []string{"r"}, Left: true, Right: true, Prio: 4, Side: api.SideRight}, {Parts: []string{"n"}, Left: true, Right: true, Prio: 4},
		{Parts: []string{"pre"}, Right: true, Prio: 4}, {Parts: []string{"post"}, Left: true, Prio: 4, Side: api.SideLeft}, {Parts: []string{"after"}, Left: true, Prio: 4, Side: api.SideRight},
		{Parts: []string{"<", ">"}, Prio: 2}, {Parts: []string{"l"}, Right: true, Prio: 2}, {Parts: []string{"at", "to"}, Left: true, Right: true, Prio: 3, Side: api.SideLeft},
		{Parts: []string{"top"}, Right: true, Prio: 9}, {Parts: []string{"high"}, Left: true, Right: true, Prio: 9, Side: api.SideLeft},
	}
	for _, x := range []reading{
		good("a l b l c", "_l_(_l_(a b) c)"), good("a r b r c", "_r_(a _r_(b c))"), good("a n b", "_n_(a b)"), wrong("a n b n c", 6),
		wrong("a l b r c", 6), wrong("a l b n c", 6), wrong("a n b r c", 6), good("a n b l c", "_l_(_n_(a b) c)"), good("a r b l c", "_r_(a _l_(b c))"), good("a r b n c", "_r_(a _n_(b c))"),
		good("pre a l b", "pre_(_l_(a b))"), good("pre pre a", "pre_(pre_(a))"), wrong("a l pre b", 4), good("a r pre b", "_r_(a pre_(b))"), good("pre a post", "pre_(_post(a))"),
		good("a l b post", "_post(_l_(a b))"), good("a post post", "_post(_post(a))"), wrong("a after after", 8), good("a post l b", "_l_(_post(a) b)"), good("a after l b", "_l_(_after(a) b)"), wrong("a after n b", 8), good("a r b post", "_r_(a _post(b))"),
		good("< a l b >", "<_>(_l_(a b))"), good("< < a > >", "<_>(<_>(a))"), good("< a > post", "_post(<_>(a))"), good("top < a > high b", "top_(_high_(<_>(a) b))"), good("a high < b >", "_high_(a <_>(b))"), wrong("< a > b", 6), wrong("< a", 3), wrong("< >", 3),
		good("l a l b", "l_(_l_(a b))"), good("(l a) l b", "_l_(l_(a) b)"), wrong("a l l b", 4), wrong("l", 1),
		good("a at b l c to d l e", "_at_to_(a _l_(b c) _l_(d e))"), good("a at b at c to d to e", "_at_to_(a _at_to_(b c d) e)"), good("a at b to c at d to e", "_at_to_(_at_to_(a b c) d e)"), wrong("a at b", 6),
		good("a high b high c", "_high_(_high_(a b) c)"), wrong("a high top b", 7),
	} {
		n, at, err := parse.Expr(x.text, ops)
		x.hold(t, n, at, err)
	}
}

// P2.1: a part within an operation can begin another one, which then takes what stands ahead of it, if it can.
func TestPartsOfTwoOperations(t *testing.T) {
	ops := []api.Mix{
		{Parts: []string{"if", "then"}, Right: true, Prio: 1}, {Parts: []string{"then"}, Left: true, Right: true, Prio: 5}, {Parts: []string{"%"}, Left: true, Prio: 4},
		{Parts: []string{"+", "+"}, Left: true, Right: true, Prio: 5}, {Parts: []string{"if", "if"}, Left: true, Prio: 7},
	}
	for _, x := range []reading{
		good("a then b", "_then_(a b)"), wrong("if a then b", 11), wrong("if (a) then b", 13), good("if a % then b", "if_then_(_%(a) b)"), good("if a then b % then c", "if_then_(_%(_then_(a b)) c)"), good("if a % then b then c", "if_then_(_%(a) _then_(b c))"),
		wrong("a + b + c", 9), good("a + b % + c", "_+_+_(a _%(b) c)"), wrong("a if b if", 9), good("a if b % if", "_if_if(a _%(b))"), good("if a if b % if % then c", "if_then_(_%(_if_if(a _%(b))) c)"),
	} {
		n, at, err := parse.Expr(x.text, ops)
		x.hold(t, n, at, err)
	}
}

// P2.1: behaviours.
func TestBehaviour(t *testing.T) {
	for _, x := range []reading{
		good("stop", "stop"), good("exit", "exit"), good("P", "call:P([] [])"), good("P [a, b]", "call:P([.a .b] [])"), good("P (x, y + 1)", "call:P([] [x _+_(y 1)])"), good("P[a](f(x, y), (z))", "call:P([.a] [f(x y) z])"),
		good("exit (x)", "exit(give(x))"), good("exit (x of nat, any bool, y)", "exit(give(of:nat(x)) any(.bool) give(y))"), good("exit(any nat)", "exit(any(.nat))"),
		good("a; stop", "pre(.a [] [] [] stop)"), good("i; a; b; exit", "pre(.i [] [] [] pre(.a [] [] [] pre(.b [] [] [] exit)))"), good("wait 007; a; stop", "wait#7(pre(.a [] [] [] stop))"), good("wait 0; stop", "wait(stop)"), good("wait 2147483647; stop", "wait#2147483647(stop)"),
		good("g !x ?y : nat [x = y] {2..5}; stop", "pre(.g [give(x) take:y(.nat)] [eq(x y)] [win#3(.2 .5)] stop)"), good("g ?x, y : nat !z + 1 ?u : bool; stop", "pre(.g [take:x(.nat) take:y(.nat) give(_+_(z 1)) take:u(.bool)] [] [] stop)"),
		good("g {3}; stop", "pre(.g [] [] [win#1(.3)] stop)"), good("g {03..}; stop", "pre(.g [] [] [win#2(.3)] stop)"), good("i {5..2}; stop", "pre(.i [] [] [win#3(.5 .2)] stop)"), good("i !x ?y : nat [f(x, y) = z, 0 = 1]; stop", "pre(.i [give(x) take:y(.nat)] [eq(f(x y) z) eq(0 1)] [] stop)"), good("g !x {0..0}; P", "pre(.g [give(x)] [] [win#3(.0 .0)] call:P([] []))"),
		good("[x = y] -> a; stop [] stop", "choice(guard([eq(x y)] pre(.a [] [] [] stop)) stop)"), good("[x = y, a + b = c] -> [0 = 1] -> stop", "guard([eq(x y) eq(_+_(a b) c)] guard([eq(0 1)] stop))"),
		good("hide a in a; stop |[a]| stop", "hide([.a] par:|[([.a] pre(.a [] [] [] stop) stop))"), good("hide a, b in stop >> stop", "hide([.a .b] enable([] stop stop))"), good("(hide a in stop) >> stop", "enable([] hide([.a] stop) stop)"), good("stop [] hide a in stop [] exit", "choice(stop hide([.a] choice(stop exit)))"),
		good("let x : nat = 0, y : bool = f(x, 1) in stop [] stop", "let([bind:x(.nat 0) bind:y(.bool f(x 1))] choice(stop stop))"), good("a; let x : nat = y of nat in b; stop", "pre(.a [] [] [] let([bind:x(.nat of:nat(y))] pre(.b [] [] [] stop)))"),
		good("choice x, y : nat, z : bool [] stop [] exit", "some([decl:x(.nat) decl:y(.nat) decl:z(.bool)] choice(stop exit))"), good("choice g in [a, b], h in [c] [] g; h; stop [> stop", "pick([gate:g([.a .b]) gate:h([.c])] disable(pre(.g [] [] [] pre(.h [] [] [] stop)) stop))"), good("choice x : nat [] choice g in [a] [] stop", "some([decl:x(.nat)] pick([gate:g([.a])] stop))"),
		good("a; b; stop [] c; stop", "choice(pre(.a [] [] [] pre(.b [] [] [] stop)) pre(.c [] [] [] stop))"), good("a; (b; stop [] stop)", "pre(.a [] [] [] choice(pre(.b [] [] [] stop) stop))"), good("stop [] exit [] P", "choice(stop choice(exit call:P([] [])))"), good("(stop [] exit) [] P", "choice(choice(stop exit) call:P([] []))"),
		good("stop ||| exit || P |[a, b]| Q", "par:|||([] stop par:||([] exit par:|[([.a .b] call:P([] []) call:Q([] []))))"), good("(stop || exit) || P", "par:||([] par:||([] stop exit) call:P([] []))"), good("stop [] exit ||| P", "par:|||([] choice(stop exit) call:P([] []))"), good("stop ||| exit [] P", "par:|||([] stop choice(exit call:P([] [])))"),
		good("stop [> exit [> P", "disable(stop disable(exit call:P([] [])))"), good("stop || exit [> P || Q", "disable(par:||([] stop exit) par:||([] call:P([] []) call:Q([] [])))"),
		good("P[a] ||| Q >> R", "enable([] par:|||([] call:P([.a] []) call:Q([] [])) call:R([] []))"), good("P >> Q >> R", "enable([] call:P([] []) enable([] call:Q([] []) call:R([] [])))"), good("P [> Q >> R [> stop", "enable([] disable(call:P([] []) call:Q([] [])) disable(call:R([] []) stop))"), good("P >> accept x, y : nat, z : bool in Q >> R", "enable([decl:x(.nat) decl:y(.nat) decl:z(.bool)] call:P([] []) enable([] call:Q([] []) call:R([] [])))"), good("(P >> Q) >> R", "enable([] enable([] call:P([] []) call:Q([] [])) call:R([] []))"),
		good("(((stop)))", "stop"), good("wait 1; (stop >> stop) [] [x = y] -> (stop)", "choice(wait#1(enable([] stop stop)) guard([eq(x y)] stop))"), good("g !(a); stop", "pre(.g [give(a)] [] [] stop)"),
	} {
		n, at, err := parse.Behaviour(x.text, table())
		x.hold(t, n, at, err)
	}
}

// P2.1: the token that is too much in a behaviour.
func TestBehaviourRefused(t *testing.T) {
	for _, x := range []reading{
		bad("", 0), bad("  ", 2), bad("a;", 2), bad("a; ", 3), bad("stop stop", 5), bad("a; stop stop", 8), bad("stop;", 4), bad("stop []", 7), bad("stop [] [] stop", 8), bad("stop |||", 8), bad("stop >> >>", 8), bad("stop [> )", 8), bad("(stop", 5), bad("(stop))", 6), bad("()", 1),
		bad("g [x = y]; stop", 5), bad("g {2} [x = y]; stop", 6), bad("g {x}; stop", 3), bad("g {}; stop", 3), bad("g {2 3}; stop", 5), bad("g {2..3..}; stop", 7), bad("g {2.. x}; stop", 7), bad("g {2} {3}; stop", 6), bad("g {2}", 5), bad("a {3..2}", 8), bad("i stop", 2), bad("i [x = y]; stop", 2), bad("i", 1), bad("i >> stop", 2),
		bad("g !; stop", 3), bad("g !, x; stop", 3), bad("g !x, y; stop", 4), bad("g ?x; stop", 4), bad("g ?x : ; stop", 7), bad("g ?x : nat, y : nat; stop", 10), bad("g ?7 : nat; stop", 3), bad("g ?x, : nat; stop", 6), bad("g !x [x]; stop", 7), bad("g !x [x = ]; stop", 10), bad("g !x [x = y = z]; stop", 12), bad("g !x []; stop", 5), bad("g !x [x = y] !z; stop", 13), bad("g !stop; stop", 3),
		bad("[x] -> stop", 2), bad("[x = y] stop", 8), bad("[x = y, ] -> stop", 8), bad("[x = y] ->", 10), bad("[x = y] => stop", 8), bad("[] -> stop", 0), bad("[a] -> stop", 2),
		bad("hide in stop", 5), bad("hide a b in stop", 7), bad("hide a, in stop", 8), bad("hide a stop", 7), bad("hide i in stop", 5), bad("hide 7 in stop", 5), bad("let x = 0 in stop", 6), bad("let x : nat in stop", 12), bad("let x : nat = in stop", 14), bad("let x : nat = 0 stop", 16), bad("let x, y : nat = 0 in stop", 5), bad("let in stop", 4),
		bad("choice a, b in [a] [] stop", 12), bad("choice x : nat stop", 15), bad("choice x [] stop", 9), bad("choice x in a [] stop", 12), bad("choice x in [a] in stop", 16), bad("choice x in [a], y : nat [] stop", 19), bad("choice x : nat, y in [a] [] stop", 18), bad("choice [] stop", 7), bad("choice hide in [a] [] stop", 7), bad("choice x in [] stop", 12),
		bad("wait x; stop", 5), bad("wait 3 stop", 7), bad("wait; stop", 4), bad("wait 3; ", 8), bad("exit ()", 6), bad("exit (", 6), bad("exit (any)", 9), bad("exit (any 3)", 10), bad("exit (x,)", 8), bad("exit (any nat of nat)", 14), bad("exit [a]", 5), bad("exit x", 5),
		bad("P ()", 3), bad("P [a", 4), bad("P [a b]", 5), bad("P [a] [b]", 6), bad("P (x) (y)", 6), bad("P (x) [a]", 6), bad("P [a]; stop", 5), bad("P (x); stop", 5), bad("P (x", 4), bad("P (any nat)", 3), bad("P x", 2), bad("P of nat", 2), bad("P(x)!y; stop", 4), bad("P i", 2), bad("7", 0), bad("+", 0), bad("of", 0), bad("where", 0), bad("P where", 2),
		bad("P |[]| Q", 4), bad("P |[a] Q", 5), bad("P |[a b]| Q", 6), bad("P |[i]| Q", 4), bad("P >> accept in Q", 12), bad("P >> accept x in Q", 14), bad("P >> accept x : nat Q", 20), bad("P >> accept x : nat, in Q", 21), bad("P accept", 2), bad("P [> accept x : nat in Q", 5),
	} {
		n, at, err := parse.Behaviour(x.text, nil)
		x.hold(t, n, at, err)
	}
}

// spec puts types around a text that declares them, and what follows them.
func spec(types, rest string) string {
	return "specification x : noexit " + types + " behaviour stop " + rest + " endspec"
}

// P2.1: specifications, processes and types.
func TestParse(t *testing.T) {
	for _, x := range []reading{
		good("specification x : noexit behaviour stop endspec", "spec:x([] [] func [] stop [])"),
		good("specification x [a, b] (n, m : nat, k : bool) : exit (nat, bool) library nat, bool endlib behaviour exit (n) endspec", "spec:x([.a .b] [decl:n(.nat) decl:m(.nat) decl:k(.bool)] func#1(.nat .bool) [lib(.nat .bool)] exit(give(n)) [])"),
		good("specification x : exit behaviour P where process P : noexit := stop endproc endspec", "spec:x([] [] func#1 [] call:P([] []) [proc:P([] [] func stop [])])"),
		good(spec("", "where"), "spec:x([] [] func [] stop [])"),
		good(spec("", "where type t is endtype process P [g] (n : nat) : exit (nat) := exit (n) where process Q : noexit := stop where endproc type u is t endtype endproc type v is endtype"), "spec:x([] [] func [] stop [type:t([] [] [] [] [] [] []) proc:P([.g] [decl:n(.nat)] func#1(.nat) exit(give(n)) [proc:Q([] [] func stop []) type:u([.t] [] [] [] [] [] [])]) type:v([] [] [] [] [] [] [])])"),
		good(spec("library a endlib type t is a, b sorts s, u endtype library b, c endlib", ""), "spec:x([] [] func [lib(.a) type:t([.a .b] [] [] [] [.s .u] [] []) lib(.b .c)] stop [])"),
		good(spec("type t is formalsorts a, b formalopns f : -> a formaleqns ofsort a f = f; sorts c opns g : -> c eqns ofsort c g = g; endtype", ""), "spec:x([] [] func [type:t([] [.a .b] [op:f#36([] .a)] [eqns:a([] [eqn([] eq(f f))])] [.c] [op:g#36([] .c)] [eqns:c([] [eqn([] eq(g g))])])] stop [])"),
		good(spec("type t is opns eqns endtype", ""), "spec:x([] [] func [type:t([] [] [] [] [] [] [])] stop [])"), good(spec("type t is formalopns formaleqns opns endtype", ""), "spec:x([] [] func [type:t([] [] [] [] [] [] [])] stop [])"),
		good(spec("type t is b renamedby endtype", ""), "spec:x([] [] func [rename:t(.b [] [])] stop [])"), good(spec("type t is b renamedby sortnames opnnames endtype", ""), "spec:x([] [] func [rename:t(.b [] [])] stop [])"),
		good(spec("type t is b renamedby sortnames k for n l for m opnnames _#_ for _+_ 1 for 007 f for + endtype", ""), "spec:x([] [] func [rename:t(.b [to(.k .n) to(.l .m)] [to(._#_ ._+_) to(.1 .7) to(.f .+)])] stop [])"),
		good(spec("type t is b actualizedby c, d using sortnames k for n opnnames if_then_ for f g for _%_ endtype", ""), "spec:x([] [] func [actual:t(.b [.c .d] [to(.k .n)] [to(.if_then_ .f) to(.g ._%_)])] stop [])"),
		good(spec("type t is b actualizedby c using endtype", ""), "spec:x([] [] func [actual:t(.b [.c] [] [])] stop [])"),
		good(spec("type t is opns 007, a, $ : -> s f : s -> s _+_ (5 left), _-_ (5 right), -_ (4), add, _% : s, u -> s if_then_else_, _x (9) : s -> u endtype", ""),
			"spec:x([] [] func [type:t([] [] [] [] [] [op:7#36([] .s) op:a#36([] .s) op:$#36([] .s) op:f#36([.s] .s) op:_+_#21([.s .u] .s) op:_-_#22([.s .u] .s) op:-_#16([.s .u] .s) op:add#36([.s .u] .s) op:_%#36([.s .u] .s) op:if_then_else_#36([.s] .u) op:_x#36([.s] .u)] [])] stop [])"),
		good(spec("type t is opns _+_ (5 left) : s, s -> s eqns forall x, y : s, z : u ofsort s x + y + z = y; x = y, f(x, y) = z => x + y = (z); a = b => c = d; ofsort u forall x : u ofsort u x = x; endtype", ""),
			"spec:x([] [] func [type:t([] [] [] [] [] [op:_+_#21([.s .s] .s)] [eqns:s([decl:x(.s) decl:y(.s) decl:z(.u)] [eqn([] eq(_+_(_+_(x y) z) y)) eqn([eq(x y) eq(f(x y) z)] eq(_+_(x y) z)) eqn([eq(a b)] eq(c d))]) eqns:u([] []) eqns:u([decl:x(.u)] [eqn([] eq(x x))])])] stop [])"),
	} {
		n, at, err := parse.Parse(x.text)
		x.hold(t, n, at, err)
	}
}

// badAt is a text that is refused where the mark stands, which is taken out.
func badAt(marked string) reading {
	ahead, behind, _ := strings.Cut(marked, "◆")
	return bad(ahead+behind, len(ahead))
}

// P2.1: the token that is too much in a specification.
func TestParseRefused(t *testing.T) {
	for _, x := range []string{
		"◆", "◆stop", "specification ◆", "specification ◆: noexit", "specification ◆i", "specification x ◆behaviour", "specification x ◆[] : noexit", "specification x [a ◆b]", "specification x [a]◆[b]", "specification x (◆)", "specification x (n◆)", "specification x (n : ◆)", "specification x (n : nat,◆)", "specification x (n : nat)◆[a]",
		"specification x : ◆stop", "specification x : noexit ◆(nat)", "specification x : exit (◆)", "specification x : exit (nat ◆:", "specification x : exit (nat) ◆(nat)", "specification x : noexit ◆:=", "specification x : noexit ◆process", "specification x : noexit library ◆endlib", "specification x : noexit library a ◆b endlib", "specification x : noexit library a ◆endtype",
		"specification x : noexit behaviour ◆endspec", "specification x : noexit behaviour stop ◆type", "specification x : noexit behaviour stop ◆endproc", "specification x : noexit behaviour stop where ◆library", "specification x : noexit behaviour stop where ◆where", "specification x : noexit behaviour stop endspec ◆stop", "specification x : noexit behaviour stop◆", "specification x : noexit behaviour stop endspec ◆endspec",
		spec("", "where process ◆:"), spec("", "where process P : noexit ◆= stop"), spec("", "where process P : noexit := stop ◆endspec"), spec("", "where process P : noexit := stop ◆; endproc"), spec("", "where process P ◆:= stop endproc"),
		spec("type ◆is endtype", ""), spec("type t ◆endtype", ""), spec("type t is a ◆b endtype", ""), spec("type t is a, ◆sorts b endtype", ""), spec("type t is sorts ◆endtype", ""), spec("type t is sorts ◆renamedby", ""), spec("type t is formalsorts ◆opns", ""), spec("type t is sorts a ◆formalsorts b endtype", ""), spec("type t is opns ◆sorts a endtype", ""), spec("type t is eqns ◆opns endtype", ""), spec("type t is eqns forall ◆: endtype", ""), spec("type t is sorts a ◆sorts b endtype", ""), spec("type t is a, b ◆renamedby endtype", ""), spec("type t is a, b ◆actualizedby c using endtype", ""),
		spec("type t is b renamedby ◆sorts endtype", ""), spec("type t is b renamedby ◆k for n endtype", ""), spec("type t is b renamedby opnnames k for n ◆sortnames endtype", ""), spec("type t is b renamedby sortnames k ◆l for n endtype", ""), spec("type t is b renamedby sortnames k for ◆endtype", ""), spec("type t is b renamedby sortnames k for n◆, l for m endtype", ""), spec("type t is b renamedby sortnames _◆_ for", ""), spec("type t is b renamedby sortnames _ ◆for", ""), spec("type t is b renamedby sortnames 1 ◆_ for", ""), spec("type t is b renamedby opnnames k for _+_ l ◆for m endtype", ""), spec("type t is b renamedby opnnames k for _+_ ◆(5) endtype", ""), spec("type t is b renamedby opnnames ◆-> endtype", ""),
		spec("type t is b actualizedby ◆using endtype", ""), spec("type t is b actualizedby c ◆endtype", ""), spec("type t is b actualizedby c ◆d using endtype", ""), spec("type t is b actualizedby c using ◆c endtype", ""),
		spec("type t is opns f ◆-> s endtype", ""), spec("type t is opns f : ◆endtype", ""), spec("type t is opns f : s ◆endtype", ""), spec("type t is opns f : s, ◆-> s endtype", ""), spec("type t is opns f : -> s◆, u endtype", ""), spec("type t is opns f, ◆: -> s endtype", ""), spec("type t is opns f ◆g : -> s endtype", ""), spec("type t is opns f ◆(3) : -> s endtype", ""), spec("type t is opns 7 ◆(3) : -> s endtype", ""), spec("type t is opns 7◆_ : -> s endtype", ""), spec("type t is opns f : s ◆u -> s endtype", ""),
		spec("type t is opns _◆_ : s -> s endtype", ""), spec("type t is opns _ ◆: s -> s endtype", ""), spec("type t is opns _f_◆_ : s -> s endtype", ""), spec("type t is opns _f_◆7 : s -> s endtype", ""), spec("type t is opns _◆7 : s -> s endtype", ""), spec("type t is opns _f ◆g : s -> s endtype", ""), spec("type t is opns ◆of : s -> s endtype", ""), spec("type t is opns ◆= : s -> s endtype", ""),
		spec("type t is opns _f (◆) : s -> s endtype", ""), spec("type t is opns _f (◆left) : s -> s endtype", ""), spec("type t is opns _f (◆0) : s -> s endtype", ""), spec("type t is opns _f (◆10) : s -> s endtype", ""), spec("type t is opns _f (◆2147483647) : s -> s endtype", ""), spec("type t is opns _f (5 ◆none) : s -> s endtype", ""), spec("type t is opns _f (5 left ◆right) : s -> s endtype", ""), spec("type t is opns _f (5◆, left) : s -> s endtype", ""), spec("type t is opns _f (5) ◆(5) : s -> s endtype", ""), spec("type t is opns _f (5) ◆_ : s -> s endtype", ""),
		spec("type t is eqns ◆a = b; endtype", ""), spec("type t is eqns ofsort ◆; endtype", ""), spec("type t is eqns ofsort s a◆; endtype", ""), spec("type t is eqns ofsort s a = b ◆endtype", ""), spec("type t is eqns ofsort s a = b, c = d◆; endtype", ""), spec("type t is eqns ofsort s a = b => c = d ◆=> e = f; endtype", ""), spec("type t is eqns ofsort s a = b => c = d◆, e = f; endtype", ""), spec("type t is eqns ofsort s a = b => ◆; endtype", ""), spec("type t is eqns ofsort s a = b; ◆; endtype", ""), spec("type t is eqns ofsort s a = ◆= b; endtype", ""), spec("type t is eqns forall x ◆ofsort s endtype", ""), spec("type t is eqns forall x : s ◆endtype", ""), spec("type t is eqns forall x : s ◆forall y : s ofsort s endtype", ""), spec("type t is eqns forall x : s, ◆ofsort s endtype", ""), spec("type t is eqns ofsort s f(a = b◆) = c; endtype", ""),
	} {
		n, at, err := parse.Parse(badAt(x).text)
		badAt(x).hold(t, n, at, err)
	}
}

func holdPlaces(t *testing.T, text string, n api.Node, err api.Errno, want string) {
	t.Helper()
	if s := placed(text, n); s != want || err != api.OK {
		t.Errorf("the places of %q: %d\n%s\ninstead of\n%s", text, err, s, want)
	}
}

// P2.1, P2.5: the places of nodes, and where one without tokens stands.
func TestPlaces(t *testing.T) {
	for _, x := range []struct{ text, want string }{
		{"P", "P|@1|@1"}, {" P [ a ]  (* *)", "P [ a ]|[ a ]|a|@15"}, {"P(x, (y)) ", "P(x, (y))|@1|x, (y)|x|(y)"}, {" ( stop ) ", "( stop )"}, {"exit ( x, any nat )", "exit ( x, any nat )|x|x|any nat|nat"},
		{"a ; stop", "a ; stop|a|@2|@2|@2|stop"}, {"g !x ?y , z : nat {2..}; (stop)", "g !x ?y , z : nat {2..}; (stop)|g|!x ?y , z|!x|x|y|nat|z|nat|@18|{2..}|{2..}|2|(stop)"},
		{"g ?y : nat [x = y, z = 1] {02..5}; i; P", "g ?y : nat [x = y, z = 1] {02..5}; i; P|g|y|y|nat|x = y, z = 1|x = y|x|y|z = 1|z|1|{02..5}|{02..5}|02|5|i; P|i|@36|@36|@36|P|@39|@39"},
		{"[x = (y)] -> stop", "[x = (y)] -> stop|x = (y)|x = (y)|x|(y)|stop"}, {"wait 3; stop", "wait 3; stop|stop"}, {"(P) [] stop", "(P) [] stop|(P)|@2|@2|stop"},
		{"P ||| (stop [> Q)", "P ||| (stop [> Q)|@6|P|@2|@2|(stop [> Q)|stop|Q|@16|@16"}, {"P |[ a, b ]| Q", "P |[ a, b ]| Q|a, b|a|b|P|@2|@2|Q|@14|@14"},
		{"P >> Q", "P >> Q|@5|P|@2|@2|Q|@6|@6"}, {"P >> accept x, y : nat in stop", "P >> accept x, y : nat in stop|x, y|x|nat|y|nat|P|@2|@2|stop"},
		{"hide a , b in (stop)", "hide a , b in (stop)|a , b|a|b|(stop)"}, {"let x : nat = f (y) in stop", "let x : nat = f (y) in stop|x : nat = f (y)|x : nat = f (y)|nat|f (y)|y|stop"},
		{"choice x : nat [] stop", "choice x : nat [] stop|x|x|nat|stop"}, {"choice g in [ a ] [] stop", "choice g in [ a ] [] stop|g in [ a ]|g in [ a ]|a|a|stop"},
	} {
		n, _, err := parse.Behaviour(x.text, nil)
		holdPlaces(t, x.text, n, err, x.want)
	}
	for _, x := range []struct{ text, want string }{
		{" ( a + (b) ) ", "( a + (b) )|a|(b)"}, {"(a + b) * c of nat", "(a + b) * c of nat|(a + b)|a|b|c of nat|c"}, {"- a %", "- a %|a %|a"}, {"if a then b else c", "if a then b else c|a|b|c"}, {"f ( a , b ) of nat", "f ( a , b ) of nat|f ( a , b )|a|b"}, {"((a) + b)", "((a) + b)|(a)|b"},
	} {
		n, _, err := parse.Expr(x.text, table())
		holdPlaces(t, x.text, n, err, x.want)
	}
	for _, x := range []struct{ text, want string }{
		{"specification x : noexit behaviour stop endspec ", "specification x : noexit behaviour stop endspec|@16|@16|noexit|@25|stop|@40"},
		{"specification x [ a ] ( n : s ) : exit ( s ) library b endlib behaviour stop where endspec", "specification x [ a ] ( n : s ) : exit ( s ) library b endlib behaviour stop where endspec|[ a ]|a|( n : s )|n|s|exit ( s )|s|library b endlib|library b endlib|b|stop|where"},
		{"specification x : exit behaviour stop where process P : exit := stop endproc endspec", "specification x : exit behaviour stop where process P : exit := stop endproc endspec|@16|@16|exit|@23|stop|where process P : exit := stop endproc|process P : exit := stop endproc|@54|@54|exit|stop|@69"},
	} {
		n, _, err := parse.Parse(x.text)
		holdPlaces(t, x.text, n, err, x.want)
	}
}

// P2.1, P2.5: the places of nodes in types.
func TestPlacesInTypes(t *testing.T) {
	for _, x := range []struct{ text, want string }{
		{"type t is endtype", "type t is endtype|@35|@35|@35|@35|@35|@35|@35"},
		{"type t is a, b sorts s endtype", "type t is a, b sorts s endtype|a, b|a|b|@40|@40|@40|s|s|@48|@48"},
		{"type t is opns _ + _ ( 5 left ), f : s -> u g : -> s endtype", "type t is opns _ + _ ( 5 left ), f : s -> u g : -> s endtype|@35|@35|@35|@35|@35|_ + _ ( 5 left ), f : s -> u g|_ + _ ( 5 left )|s|s|u|f|s|s|u|g|@73|s|@78"},
		{"type t is eqns forall x, y : s ofsort s a = b; x = y, a = b => (a) = b ; ofsort u endtype", "type t is eqns forall x, y : s ofsort s a = b; x = y, a = b => (a) = b ; ofsort u endtype|@35|@35|@35|@35|@35|@35|forall x, y : s ofsort s a = b; x = y, a = b => (a) = b ; ofsort u|forall x, y : s ofsort s a = b; x = y, a = b => (a) = b ;|x, y|x|s|y|s|a = b; x = y, a = b => (a) = b|a = b|@65|a = b|a|b|x = y, a = b => (a) = b|x = y, a = b|x = y|x|y|a = b|a|b|(a) = b|(a)|b|ofsort u|@98|@107"},
		{"type t is b renamedby sortnames k for n opnnames endtype", "type t is b renamedby sortnames k for n opnnames endtype|b|k for n|k for n|k|n|@74"},
		{"type t is b actualizedby c , d using opnnames _ # _ for 7 endtype", "type t is b actualizedby c , d using opnnames _ # _ for 7 endtype|b|c , d|c|d|@62|_ # _ for 7|_ # _ for 7|_ # _|7"},
	} {
		text := "specification x : noexit " + x.text + " behaviour stop endspec"
		n, _, err := parse.Parse(text)
		if err != api.OK {
			t.Errorf("%q: %d", text, err)
			continue
		}
		holdPlaces(t, text, n.L[3].L[0], err, x.want)
	}
}
