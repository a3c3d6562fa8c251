package show_test

import (
	"slices"
	"strings"
	"testing"

	"madrigal/api"
	"madrigal/parse"
	"madrigal/show"
)

// P3.1: the examples of the chapter, and what else its rules name.
func TestExpr(t *testing.T) {
	a, b, c := app("a"), app("b"), app("c")
	ops := append(more(), mix("then", false, false, 1, 0)) // a wrong one: without an argument
	if s, err := show.Expr(a, ops); s != "" || err != api.ErrMix {
		t.Errorf("%q %d", s, err)
	}
	ops = more()
	for _, x := range []struct {
		n    api.Node
		want string
	}{
		{app("_+_", a, app("_+_", b, c)), "a+(b+c)"}, {app("_+_", app("_+_", a, b), c), "a+b+c"}, {app("_^_", app("_^_", a, b), c), "(a^b)^c"}, {app("_*_", app("_+_", a, b), c), "(a+b)*c"}, {app("_+_", app("-_", a), b), "-a+b"}, {app("-_", app("_+_", a, b)), "-(a+b)"}, {app("_^_", a, app("-_", b)), "a^(-b)"},
		{of("nat", app("_+_", a, b)), "(a+b)of nat"}, {app("_+_", of("nat", a), b), "a of nat+b"}, {app("-_", of("nat", a)), "-a of nat"}, {of("nat", app("-_", a)), "(-a)of nat"}, {of("nat", of("int", a)), "a of int of nat"}, {of("nat", app("_%", a)), "a%of nat"}, {app("_$_", a, of("nat", app("_%", b))), "a$b%of nat"},
		// What stands in brackets at the beginning of what is read up to a priority: the element of "of", or a left argument.
		{app("-_", of("nat", app("_@_by", a, b))), "-(a@b by)of nat"}, {app("-_", app("_%", app("_@_by", a, b))), "-(a@b by)%"}, {app("pre_", app("_@_by", a, b)), "pre a@b by"}, {app("_~_", app("_+_", a, b), c), "(a+b)~c"}, {app("_+_", app("_~_", a, b), c), "(a~b)+c"},
		// Arguments at the end take what follows, or not.
		{app("_+_", app("pre_", a), b), "(pre a)+b"}, {app("_+_", app("&_by_", a, app("_<_", b, c)), a), "(&a by(b<c))+a"}, {app("_+_", app("_~_", a, app("_<_", b, c)), a), "(a~(b<c))+a"}, {app("_+_", app("_*_", a, app("_+_", b, c)), a), "a*(b+c)+a"}, {app("_@_by", app("_+_", a, b), c), "a+b@c by"}, {app("_@_by", app("pre_", a), c), "(pre a)@c by"}, {app("_*_", a, app("pre_", b)), "a*(pre b)"}, {app("pre_", app("pre_", a)), "pre pre a"}, {app("_+_", app("_*_", a, app("-_", b)), c), "a*(-b)+c"}, {app("_%", app("_$_", a, app("_^_", b, c))), "(a$(b^c))%"},
		{app("if_then_else_", app("if_then_else_", a, b, c), app("if_then_else_", a, b, c), app("if_then_else_", a, b, c)), "if if a then b else c then if a then b else c else if a then b else c"}, {app("_<_", app("if_then_else_", a, b, c), a), "(if a then b else c)<a"}, {app("lo_hi", app("_<_", a, b)), "lo a<b hi"}, {app("_%", app("lo_hi", a)), "lo a hi%"}, {app("&_by_", app("_<_", a, b), app("_*_", a, b)), "&a<b by a*b"}, {app("_^_", app("&_by_", a, b), app("&_by_", a, b)), "(&a by b)^(&a by b)"},
		{app("f", app("_<_", a, b), app("7")), "f(a<b,7)"}, {app("+", app("+"), app("*")), "+(+,*)"}, {app("0"), "0"}, {app("2147483647"), "2147483647"}, {app("then"), "then"}, {app("#'"), ""}, {app("x'"), "x'"},
	} {
		if x.want == "" {
			if s, err := show.Expr(x.n, ops); s != "" || err != api.ErrShown {
				t.Errorf("%q %d", s, err)
			}
			continue
		}
		if s, err := show.Expr(x.n, ops); s != x.want || err != api.OK {
			t.Errorf("%q, %d; not %q", s, err, x.want)
		}
		holdExpr(t, x.n, ops)
	}
}

// P3.1: what is no tree of an expression.
func TestExprRefused(t *testing.T) {
	a := app("a")
	for i, n := range []api.Node{
		{}, stop(), name("a"), list(), {Kind: api.NdApp, S: "a", N: 1}, {Kind: api.NdApp, S: "a", N: -1}, {Kind: api.NdOf, S: "nat", N: 1, L: []api.Node{a}}, of("+", a), of("", a), of("7", a), of("of", a), of("nat", stop()), named(api.NdOf, "nat"), named(api.NdOf, "nat", a, a),
		app(""), app("if"), app("if", a), app("-"), app("-", a), app("_+_"), app("_+_", a), app("_+_", a, a, a), app("+_", a), app("_"), app("07"), app("-7"), app("2147483648"), app("99999999999999999999999999"), app("7", a), app("7a"), app("stop"), app("="), app("a b"), app("(*"), app("a", stop()), app("_+_", a, stop()), app("_+_", name("a"), a), app("_%", app("_+_", a)), app("f", a, app("f", app("if"))), app(strings.Repeat("a", 33)), app(strings.Repeat("+", 33)),
	} {
		if s, err := show.Expr(n, table()); s != "" || err != api.ErrShown {
			t.Errorf("Expr, %d: %q %d", i, s, err)
		}
		// It is refused as part of a behaviour, too.
		if s, err := show.Behaviour(kind(api.NdExit, kind(api.NdGive, n)), table()); s != "" || err != api.ErrShown {
			t.Errorf("Behaviour, %d: %q %d", i, s, err)
		}
	}
	if s, err := show.Expr(app(""), append(table(), table()[0])); s != "" || err != api.ErrMix {
		t.Errorf("%q %d", s, err)
	}
	if s, err := show.Behaviour(api.Node{}, append(table(), table()[0])); s != "" || err != api.ErrMix {
		t.Errorf("%q %d", s, err)
	}
}

// P3.1: behaviours of all kinds, and the examples of the chapter.
func TestBehaviour(t *testing.T) {
	hideA := func(b api.Node) api.Node { return kind(api.NdHide, names("a"), b) }
	par := func(s string, a, b api.Node, gates ...string) api.Node {
		return named(api.NdPar, s, names(gates...), a, b)
	}
	then := func(a, b api.Node, vars ...api.Node) api.Node { return kind(api.NdEnable, list(vars...), a, b) }
	p, q, r := callOf("P"), callOf("Q"), callOf("R")
	x, y := app("x"), app("_+_", app("x"), app("0"))
	for _, c := range []struct {
		n    api.Node
		want string
	}{
		{kind(api.NdChoice, hideA(stop()), stop()), "(hide a in stop)[]stop"}, {kind(api.NdChoice, stop(), hideA(stop())), "stop[]hide a in stop"}, {par("|||", action("a", kind(api.NdHide, names("b"), stop())), stop()), "a;(hide b in stop)|||stop"}, {then(then(p, q), r), "(P>>Q)>>R"}, {then(p, then(q, r)), "P>>Q>>R"},
		{then(kind(api.NdDisable, p, q), r), "P[>Q>>R"}, {kind(api.NdDisable, p, then(q, r)), "P[>(Q>>R)"}, {kind(api.NdDisable, kind(api.NdDisable, p, q), r), "(P[>Q)[>R"}, {kind(api.NdDisable, p, kind(api.NdDisable, q, r)), "P[>Q[>R"}, {kind(api.NdDisable, par("||", p, q), par("|||", q, r)), "P||Q[>Q|||R"}, {par("||", kind(api.NdDisable, p, q), r), "(P[>Q)||R"}, {par("||", p, par("|||", q, r)), "P||Q|||R"}, {par("||", par("|||", p, q), r), "(P|||Q)||R"}, {par("|[", kind(api.NdChoice, p, q), r, "a", "b"), "P[]Q|[a,b]|R"},
		{kind(api.NdChoice, p, par("||", q, r)), "P[](Q||R)"}, {kind(api.NdChoice, kind(api.NdChoice, p, q), r), "(P[]Q)[]R"}, {kind(api.NdChoice, p, kind(api.NdChoice, q, r)), "P[]Q[]R"}, {action("a", kind(api.NdChoice, p, q)), "a;(P[]Q)"}, {action("i", action("b", p)), "i;b;P"}, {kind(api.NdGuard, list(eq(x, y), eq(y, x)), then(p, q)), "[x=x+0,x+0=x]->(P>>Q)"}, {numbered(api.NdWait, 3, hideA(p)), "wait 3;hide a in P"}, {kind(api.NdChoice, numbered(api.NdWait, 3, hideA(p)), q), "wait 3;(hide a in P)[]Q"},
		{then(p, hideA(then(p, q)), decl("x", "nat"), decl("y", "nat")), "P>>accept x:nat,y:nat in hide a in P>>Q"}, {then(then(p, hideA(q)), r), "(P>>hide a in Q)>>R"}, {then(kind(api.NdDisable, p, hideA(q)), r), "P[>(hide a in Q)>>R"}, {kind(api.NdDisable, kind(api.NdChoice, p, action("a", hideA(q))), r), "P[]a;(hide a in Q)[>R"}, {hideA(hideA(then(p, q))), "hide a in hide a in P>>Q"}, {then(kind(api.NdGuard, list(eq(x, x)), hideA(p)), q), "[x=x]->(hide a in P)>>Q"},
		{kind(api.NdChoice, kind(api.NdLet, list(named(api.NdBind, "x", name("nat"), y), named(api.NdBind, "z", name("nat"), x)), p), q), "(let x:nat=x+0,z:nat=x in P)[]Q"}, {kind(api.NdChoice, kind(api.NdSome, list(decl("x", "nat"), decl("y", "nat")), p), q), "(choice x:nat,y:nat[]P)[]Q"}, {kind(api.NdChoice, kind(api.NdPick, list(named(api.NdGate, "g", names("a", "b")), named(api.NdGate, "h", names("a"))), p), q), "(choice g in[a,b],h in[a][]P)[]Q"},
		{kind(api.NdExit), "exit"}, {kind(api.NdExit, kind(api.NdGive, y), kind(api.NdAny, name("nat"))), "exit(x+0,any nat)"}, {named(api.NdCall, "P", names("a", "b"), list(x, y)), "P[a,b](x,x+0)"}, {named(api.NdCall, "P", list(), list(y)), "P(x+0)"}, {par("|[", named(api.NdCall, "P", names("a"), list()), p, "a"), "P[a] |[a]|P"},
		{kind(api.NdPre, name("g"), list(kind(api.NdGive, y), named(api.NdTake, "z", name("nat")), named(api.NdTake, "w", name("nat"))), list(eq(x, y)), list(numbered(api.NdWin, 3, name("2"), name("1"))), stop()), "g!x+0?z:nat?w:nat[x=x+0]{2..1};stop"}, {kind(api.NdPre, name("i"), list(), list(), list(numbered(api.NdWin, 2, name("0"))), stop()), "i{0..};stop"}, {kind(api.NdPre, name("g"), list(), list(), list(numbered(api.NdWin, 1, name("7"))), stop()), "g{7};stop"},
	} {
		if s, err := show.Behaviour(c.n, table()); s != c.want || err != api.OK {
			t.Errorf("%q, %d; not %q", s, err, c.want)
		}
		holdBehaviour(t, c.n, table())
	}
	for i, n := range []api.Node{{}, app("a"), list(), name("a"), kind(api.NdSpec), kind(api.NdEnable, list(decl("x", "+")), p, q), par("|[", p, q), par("||", p, q, "a"), par("|", p, q), kind(api.NdPre, name("a"), list(), list(eq(x, x)), list(), stop()), kind(api.NdPre, name("stop"), list(), list(), list(), stop()),
		kind(api.NdPre, name("a"), list(), list(), list(numbered(api.NdWin, 1, name("0")), numbered(api.NdWin, 1, name("0"))), stop()), kind(api.NdPre, name("a"), list(), list(), list(numbered(api.NdWin, 4, name("0"), name("1"), name("2"))), stop()), kind(api.NdPre, name("a"), list(), list(), list(numbered(api.NdWin, 3, name("0"))), stop())} {
		if s, err := show.Behaviour(n, table()); s != "" || err != api.ErrShown {
			t.Errorf("Behaviour, %d: %q %d", i, s, err)
		}
	}
}

// P3.1: texts with everything that can be left out, and with nothing of it.
func TestText(t *testing.T) {
	for _, x := range []struct{ text, want string }{
		{"specification x : noexit behaviour stop where endspec", "specification x:noexit behaviour stop endspec"}, {"specification x : exit type t is opns eqns endtype behaviour (stop) endspec", "specification x:exit type t is endtype behaviour stop endspec"},
		{"specification x [a, b] (n : s) : exit (s, u) library v, w endlib behaviour exit where type t is endtype endspec", "specification x[a,b](n:s):exit(s,u)library v,w endlib behaviour exit where type t is endtype endspec"}, {"specification x : noexit behaviour P >> Q where process P : exit := exit endproc process Q : noexit := stop where process R : noexit := stop endproc endproc endspec", "specification x:noexit behaviour P>>Q where process P:exit:=exit endproc process Q:noexit:=stop where process R:noexit:=stop endproc endproc endspec"},
		{"specification x : noexit type t is a, b formalsorts s, u formalopns f : -> s formaleqns ofsort s f = f; sorts c opns 007, $ : -> c g : c, s -> c eqns forall y : c ofsort c g(y, f) = (y); y = f, f = f => y = y; ofsort s endtype behaviour stop endspec", "specification x:noexit type t is a,b formalsorts s,u formalopns f:->s formaleqns ofsort s f=f;sorts c opns 7:->c$:->c g:c,s->c eqns forall y:c ofsort c g(y,f)=y;y=f,f=f=>y=y;ofsort s endtype behaviour stop endspec"},
		{"specification x : noexit type t is opns _+_ (5 left) : -> s _-_ (5 right) : -> s _%_ (9) : -> s _*_ (9 left) : -> s -_ (8) : -> s if_then_ : s -> s endtype behaviour stop endspec", "specification x:noexit type t is opns_+_(5 left):->s_-_(5 right):->s_%_:->s_*_(9 left):->s-_(8):->s if_then_:s->s endtype behaviour stop endspec"},
		{"specification x : noexit type t is b renamedby sortnames k for n opnnames _#_ for _+_ 1 for 007 endtype type u is b renamedby sortnames opnnames endtype behaviour stop endspec", "specification x:noexit type t is b renamedby sortnames k for n opnnames_#_for_+_1 for 7 endtype type u is b renamedby endtype behaviour stop endspec"}, {"specification x : noexit type t is b actualizedby c, d using sortnames k for n l for m opnnames f for if_then_ endtype type u is b actualizedby c using endtype behaviour stop endspec", "specification x:noexit type t is b actualizedby c,d using sortnames k for n l for m opnnames f for if_then_endtype type u is b actualizedby c using endtype behaviour stop endspec"},
	} {
		n, at, err := parse.Parse(x.text)
		if err != api.OK {
			t.Errorf("%q: %d at %d", x.text, err, at)
			continue
		}
		if s, err := show.Text(n); s != x.want || err != api.OK {
			t.Errorf("%q, %d; not %q", s, err, x.want)
		}
	}
	n, _, _ := parse.Parse("specification x : noexit behaviour a ; stop endspec")
	n.L[4].L[3].L = append(n.L[4].L[3].L, numbered(api.NdWin, 4, name("0")))
	for i, x := range []api.Node{{}, stop(), app("a"), kind(api.NdSpec), n} {
		if s, err := show.Text(x); s != "" || err != api.ErrTree {
			t.Errorf("Text, %d: %q %d", i, s, err)
		}
	}
}

// acts is a behaviour of so many actions, one behind the other.
func acts(n int) api.Node {
	b := stop()
	for range n {
		b = action("a", b)
	}
	return b
}

// applied is f(f(.. a)), so many of them.
func applied(n int) api.Node {
	x := app("a")
	for range n {
		x = app("f", x)
	}
	return x
}

// P3.1: the limits of trees are those of what can be shown; those of texts are others.
func TestShowLimits(t *testing.T) {
	for i, x := range []struct {
		n   api.Node
		err api.Errno
	}{
		{applied(399), api.OK}, {applied(400), api.ErrShown}, {applied(60000), api.ErrShown}, {app("f", slices.Repeat([]api.Node{app("a")}, 9999)...), api.OK}, {app("f", slices.Repeat([]api.Node{app("a")}, 10000)...), api.ErrLimit}, {app("f", slices.Repeat([]api.Node{app("a")}, 59999)...), api.ErrLimit}, {app("f", slices.Repeat([]api.Node{app("a")}, 60000)...), api.ErrShown}, {app("f", append(slices.Repeat([]api.Node{app("a")}, 59998), app("if"))...), api.ErrShown}, {app("f", slices.Repeat([]api.Node{app(strings.Repeat("a", 32))}, 4000)...), api.ErrLimit},
	} {
		if s, err := show.Expr(x.n, table()); err != x.err || (s == "") == (err == api.OK) {
			t.Errorf("Expr, %d: %d bytes, %d", i, len(s), err)
		}
	}
	for i, x := range []struct {
		n   api.Node
		err api.Errno
	}{
		{acts(399), api.OK}, {acts(400), api.ErrShown}, {kind(api.NdHide, names(slices.Repeat([]string{"a"}, 9999)...), stop()), api.OK}, {kind(api.NdHide, names(slices.Repeat([]string{"a"}, 10000)...), stop()), api.ErrLimit}, {kind(api.NdHide, names(slices.Repeat([]string{"a"}, 59997)...), stop()), api.ErrLimit}, {kind(api.NdHide, names(slices.Repeat([]string{"a"}, 59998)...), stop()), api.ErrShown},
	} {
		if s, err := show.Behaviour(x.n, table()); err != x.err || (s == "") == (err == api.OK) {
			t.Errorf("Behaviour, %d: %d bytes, %d", i, len(s), err)
		}
	}
	// Operations that share their sorts are written one by one.
	shared := func(ops int) api.Node {
		n, at, err := parse.Parse("specification x : noexit type t is opns f" + strings.Repeat(", f", ops-1) + " : s" + strings.Repeat(", s", 39) + " -> s endtype behaviour stop endspec")
		if err != api.OK {
			t.Fatal(at, err)
		}
		return n
	}
	for _, ops := range []int{200, 300} {
		s, err := show.Text(shared(ops))
		laid, e := show.Lay(shared(ops), 80)
		if ops == 200 && (err != api.OK || e != api.OK || s == "" || laid == "") || ops == 300 && (err != api.ErrLimit || e != api.ErrLimit || s != "" || laid != "") {
			t.Errorf("%d operations: %d %d", ops, err, e)
		}
	}
}

// The rules R2 and R3: what is returned is new, and empty lists are as none.
func TestNewMemory(t *testing.T) {
	s := simple()
	l, _ := show.Mixes(s.Type.Sig)
	l[0].Parts[0] = "changed"
	if l, _ := show.Mixes(s.Type.Sig); l[0].Parts[0] != "+" {
		t.Error(l)
	}
	s.Main = act(0, some(exit(out(v(1)), in(0)), 0), in(0), out(o(0)))
	n, _ := show.SpecTree(s)
	text, _ := show.Spec(s)
	all(n, func(x api.Node) {
		if len(x.L) > 0 {
			x.L[0] = stop()
		}
	})
	if again, err := show.Spec(s); again != text || err != api.OK {
		t.Errorf("%q %d", again, err)
	}
	empty := api.Node{Kind: api.NdStop, L: []api.Node{}}
	if text, err := show.Behaviour(kind(api.NdChoice, empty, stop()), []api.Mix{}); text != "stop[]stop" || err != api.OK {
		t.Errorf("%q %d", text, err)
	}
}
