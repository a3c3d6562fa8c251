package show_test

import (
	"slices"
	"strconv"
	"strings"
	"testing"

	"madrigal/api"
	"madrigal/parse"
	"madrigal/show"
)

// Behaviours.

func act(gate int, behind api.Beh, offers ...api.Offer) api.Beh {
	return api.Beh{Kind: api.BPre, Gate: gate, Hi: -1, Offers: offers, L: []api.Beh{behind}}
}

func in(sort int) api.Offer { return api.Offer{In: true, Sort: sort} }

func out(t api.Term) api.Offer { return api.Offer{T: t} }

func halt() api.Beh { return api.Beh{Kind: api.BStop} }

func exit(offers ...api.Offer) api.Beh { return api.Beh{Kind: api.BExit, Offers: offers} }

func both(k int, a, b api.Beh) api.Beh { return api.Beh{Kind: k, L: []api.Beh{a, b}} }

func hide(n int, b api.Beh) api.Beh { return api.Beh{Kind: api.BHide, N: n, L: []api.Beh{b}} }

func some(b api.Beh, sorts ...int) api.Beh {
	return api.Beh{Kind: api.BSome, Sorts: sorts, L: []api.Beh{b}}
}

func enable(a, b api.Beh, sorts ...int) api.Beh {
	return api.Beh{Kind: api.BEnable, Sorts: sorts, L: []api.Beh{a, b}}
}

func guard(b api.Beh, conds ...api.Pair) api.Beh {
	return api.Beh{Kind: api.BGuard, Conds: conds, L: []api.Beh{b}}
}

func wait(lo int, b api.Beh) api.Beh { return api.Beh{Kind: api.BWait, Lo: lo, L: []api.Beh{b}} }

func window(lo, hi int) api.Beh {
	return api.Beh{Kind: api.BPre, Lo: lo, Hi: hi, L: []api.Beh{halt()}}
}

func pair(a, b api.Term) api.Pair { return api.Pair{A: a, B: b} }

// simple is a specification with the operations of numbers, and two processes.
func simple() api.Spec {
	return api.Spec{Type: api.Type{Sig: numbers()}, Gates: []string{"a", "b"}, Procs: []api.Proc{{Name: "P", Gates: 1, B: halt()}, {Name: "Q'", Vars: []int{0}, B: halt()}}, Main: halt()}
}

// P3.4
func TestBehTree(t *testing.T) {
	gates, vars := []string{"a", "b", "h2"}, []string{"x", "v1"}
	for _, x := range []struct {
		b    api.Beh
		want string
	}{
		{halt(), "stop"}, {exit(), "exit"}, {exit(in(0), out(v(1)), in(1)), "exit(any nat,v1,any int)"},
		{act(0, halt()), "a;stop"}, {act(api.GInt, act(2, halt())), "i;h2;stop"}, {act(1, act(0, halt(), out(v(2)), out(v(3))), in(0), out(v(0)), in(1)), "b?v2:nat!x?v3:int;a!v2!v3;stop"}, {act(api.GInt, halt(), in(0)), "i?v2:nat;stop"},
		{api.Beh{Kind: api.BPre, Hi: -1, Offers: []api.Offer{in(0)}, Conds: []api.Pair{pair(v(2), v(0)), pair(v(1), v(1))}, L: []api.Beh{halt()}}, "a?v2:nat[v2=x,v1=v1];stop"},
		{window(0, -1), "a;stop"}, {window(3, 3), "a{3};stop"}, {window(0, 0), "a{0};stop"}, {window(2, -1), "a{2..};stop"}, {window(0, 5), "a{0..5};stop"}, {window(5, 2), "a{5..2};stop"}, {window(api.MaxNum, api.MaxNum), "a{2147483647};stop"},
		{both(api.BChoice, halt(), exit()), "stop[]exit"}, {both(api.BDisable, halt(), exit()), "stop[>exit"}, {both(api.BPar, halt(), exit()), "stop|||exit"}, {api.Beh{Kind: api.BPar, Gates: []int{0, 2}, L: []api.Beh{halt(), exit()}}, "stop|[a,h2]|exit"}, {api.Beh{Kind: api.BPar, Gates: []int{1, 0, 1}, L: []api.Beh{halt(), exit()}}, "stop|[b,a,b]|exit"},
		{hide(1, act(3, halt())), "hide h3 in h3;stop"}, {hide(2, hide(1, act(4, act(5, halt())))), "hide h3,h4 in hide h5 in h4;h5;stop"}, {both(api.BChoice, hide(1, act(3, halt())), hide(1, halt())), "(hide h3 in h3;stop)[]hide h3 in stop"},
		{enable(halt(), exit()), "stop>>exit"}, {enable(exit(out(v(0)), in(1)), exit(out(v(2)), out(v(3))), 0, 1), "exit(x,any int)>>accept v2:nat,v3:int in exit(v2,v3)"},
		{guard(halt(), pair(v(0), o(0))), "[x=0 of nat]->stop"}, {guard(halt(), pair(v(0), v(0)), pair(o(13), o(13))), "[x=x,+ = +]->stop"},
		{api.Beh{Kind: api.BLet, Sorts: []int{0, 1}, T: []api.Term{v(1), v(0)}, L: []api.Beh{exit(out(v(3)), out(v(2)))}}, "let v2:nat=v1,v3:int=x in exit(v3,v2)"},
		{some(exit(out(v(3))), 0, 1), "choice v2:nat,v3:int[]exit(v3)"}, {both(api.BChoice, some(halt(), 0), some(halt(), 1)), "(choice v2:nat[]stop)[]choice v2:int[]stop"},
		{api.Beh{Kind: api.BCall, N: 0, Gates: []int{2}}, "P[h2]"}, {api.Beh{Kind: api.BCall, N: 1, T: []api.Term{v(0), o(1, v(1))}}, "Q'(x,s(v1))"}, {api.Beh{Kind: api.BCall, N: 1, Gates: []int{0, 0}, T: []api.Term{v(0)}}, "Q'[a,a](x)"}, {wait(7, halt()), "wait 7;stop"}, {wait(0, halt()), "wait 0;stop"},
	} {
		n, err := show.BehTree(simple(), gates, vars, x.b)
		if err != api.OK {
			t.Errorf("%q: %d", x.want, err)
			continue
		}
		mixes, _ := show.Mixes(numbers())
		if s := holdBehaviour(t, n, mixes); s != x.want {
			t.Errorf("%q instead of %q", s, x.want)
		}
		all(n, func(y api.Node) {
			if y.At != 0 || y.End != 0 {
				t.Errorf("%q: %v has a place", x.want, y)
			}
		})
	}
}

// P3.4, P3.10: names that are there already, or that a variable cannot have.
func TestPrimes(t *testing.T) {
	s := simple()
	s.Type.Sig = sigOf(op("v0", 0), op("v1_", 1), op("_v2", 1), op("v3", 1), op("h0", 0), op("v0'", 0), op("_+_v4", 2))
	for _, x := range []struct {
		gates, vars []string
		b           api.Beh
		want        string
	}{
		{nil, nil, some(halt(), 0, 0, 0, 0, 0), "choice v0'':nat,v1':nat,v2:nat,v3:nat,v4:nat[]stop"}, {nil, []string{"v1'"}, some(exit(out(v(1)), out(v(0))), 0), "choice v1'':nat[]exit(v1'',v1')"}, {nil, []string{"v3", "v3'", "v3'''"}, some(halt(), 0), "choice v3'':nat[]stop"},
		{[]string{"h1"}, nil, hide(1, hide(1, act(1, act(2, act(0, halt()))))), "hide h1' in hide h2 in h1';h2;h1;stop"}, {nil, nil, hide(1, halt()), "hide h0 in stop"}, {[]string{"h2'", "h2"}, []string{"h2''"}, hide(1, halt()), "hide h2'' in stop"}, {[]string{"v0''"}, nil, some(halt(), 0), "choice v0'':nat[]stop"},
		{nil, []string{"v1'"}, both(api.BChoice, some(exit(out(v(1))), 0), some(exit(out(v(1))), 0)), "(choice v1'':nat[]exit(v1''))[]choice v1'':nat[]exit(v1'')"},
	} {
		n, err := show.BehTree(s, x.gates, x.vars, x.b)
		mixes, _ := show.Mixes(s.Type.Sig)
		if text, e := show.Behaviour(n, mixes); text != x.want || err != api.OK || e != api.OK {
			t.Errorf("%q %d %d instead of %q", text, err, e, x.want)
		}
	}
	// Names with as many ' as they can have.
	var taken []string
	for i := range 30 {
		taken = append(taken, "v31"+strings.Repeat("'", i))
	}
	if n, err := show.BehTree(s, nil, append(taken[:29:29], "x", "y"), some(halt(), 0)); err != api.OK || n.L[0].L[0].S != taken[29] {
		t.Errorf("%v %d", n, err)
	}
	if n, err := show.BehTree(s, nil, append(taken[:30:30], "x"), some(halt(), 0)); err != api.ErrNames || n.Kind != 0 {
		t.Errorf("%v %d", n, err)
	}
}

// P3.4: what cannot be written.
func TestBehRefused(t *testing.T) {
	beh := func(k int, l ...api.Beh) api.Beh { return api.Beh{Kind: k, L: l} }
	one := []api.Beh{halt()}
	cond := []api.Pair{pair(v(0), v(0))}
	bad := []api.Beh{
		{}, {Kind: 15}, {Kind: -1}, beh(api.BStop, halt()), beh(api.BExit, halt()), beh(api.BPre), beh(api.BPre, halt(), halt()), beh(api.BChoice, halt()), beh(api.BChoice, halt(), halt(), halt()), beh(api.BPar, halt()), beh(api.BEnable, halt()), beh(api.BDisable, halt()), beh(api.BGuard), beh(api.BLet), beh(api.BSome), beh(api.BCall, halt()), beh(api.BWait), beh(api.BRel, halt()), beh(api.BHide), {Kind: api.BRel, Gates: []int{0, 1}, L: one},
		{Kind: api.BHide, L: one}, {Kind: api.BHide, N: -1, L: one}, {Kind: api.BHide, N: 33, L: one}, {Kind: api.BGuard, L: one}, {Kind: api.BLet, L: one}, {Kind: api.BSome, L: one}, {Kind: api.BLet, Sorts: []int{0}, L: one}, {Kind: api.BLet, Sorts: []int{0}, T: []api.Term{v(0), v(0)}, L: one},
		act(2, halt()), act(-2, halt()), act(-3, halt()), {Kind: api.BPar, Gates: []int{2}, L: []api.Beh{halt(), halt()}}, {Kind: api.BPar, Gates: []int{-1}, L: []api.Beh{halt(), halt()}}, {Kind: api.BCall, Gates: []int{2}}, {Kind: api.BCall, Gates: []int{-1}}, {Kind: api.BCall, N: 2}, {Kind: api.BCall, N: -1}, both(api.BChoice, hide(1, halt()), act(2, halt())),
		act(0, halt(), out(v(1))), act(0, halt(), in(0), out(v(1))), act(0, halt(), in(2)), act(0, halt(), in(-1)), exit(in(2)), exit(in(-1)), exit(out(v(1))), exit(out(v(-1))), exit(out(api.Term{})), exit(out(o(1))), exit(out(o(99))), some(halt(), 2), some(halt(), -1), enable(halt(), halt(), 2), enable(exit(out(v(1))), halt(), 0), enable(halt(), exit(out(v(2))), 0), both(api.BChoice, some(halt(), 0), exit(out(v(1)))),
		{Kind: api.BLet, Sorts: []int{2}, T: []api.Term{v(0)}, L: one}, {Kind: api.BLet, Sorts: []int{0}, T: []api.Term{v(1)}, L: one}, {Kind: api.BLet, Sorts: []int{0, 0}, T: []api.Term{v(0), v(1)}, L: one}, {Kind: api.BCall, T: []api.Term{v(1)}}, guard(halt(), pair(v(1), v(0))), guard(halt(), pair(v(0), v(1))), {Kind: api.BPre, Hi: -1, Offers: []api.Offer{in(0)}, Conds: []api.Pair{pair(v(2), v(0))}, L: one},
		{Kind: api.BPre, Hi: -1, Conds: cond, L: one}, window(-1, -1), window(-1, 2), window(0, -2), window(-2, -1), window(api.MaxNum+1, -1), window(0, api.MaxNum+1), wait(-1, halt()), wait(api.MaxNum+1, halt()),
	}
	for i, b := range bad {
		for k, x := range []api.Beh{b, hide(1, wait(3, both(api.BPar, halt(), b))), enable(halt(), guard(b, cond...))} {
			if k == 1 && b.Kind == api.BHide || k == 1 && len(b.Gates) > 0 || k == 1 && b.Kind == api.BPre || k == 1 && b.Kind == api.BChoice {
				continue // the new gate can make it right
			}
			if n, err := show.BehTree(simple(), []string{"a", "b"}, []string{"x"}, x); err != api.ErrBeh || n.Kind != 0 {
				t.Errorf("BehTree, %d, %d: %v %d", i, k, n, err)
			}
		}
		s := simple()
		s.Procs[1].B = b
		if n, err := show.SpecTree(s); err != api.ErrSpec || n.Kind != 0 {
			// A process sees other gates, and a variable of its own.
			t.Errorf("SpecTree, %d: %v %d", i, n, err)
		}
		if text, err := show.Spec(s); err != api.ErrSpec || text != "" {
			t.Errorf("Spec, %d: %q %d", i, text, err)
		}
	}
}

// P3.4: names that are none, ahead of all that is wrong in a behaviour. The name of a process is a part of what calls it.
func TestBehNames(t *testing.T) {
	var many []string
	for i := range 65 {
		many = append(many, "g"+strconv.Itoa(i))
	}
	odd := simple()
	odd.Procs[0].Name = "p#1"
	call := api.Beh{Kind: api.BCall}
	for i, x := range []struct {
		s           api.Spec
		gates, vars []string
		b           api.Beh
		err         api.Errno
	}{
		{simple(), nil, nil, api.Beh{}, api.ErrBeh}, {simple(), []string{"a", "a"}, nil, api.Beh{}, api.ErrNames}, {simple(), []string{"+"}, nil, api.Beh{}, api.ErrNames}, {simple(), []string{"i"}, nil, halt(), api.ErrNames}, {simple(), many[:32], many[:64], halt(), api.OK}, {simple(), many[:33], nil, halt(), api.ErrNames}, {simple(), nil, many, halt(), api.ErrNames}, {simple(), nil, []string{"x", "x"}, halt(), api.ErrNames}, {simple(), nil, []string{"c"}, halt(), api.ErrNames}, {simple(), nil, []string{"if"}, halt(), api.ErrNames}, {simple(), []string{"c", "if"}, []string{"a"}, halt(), api.OK}, {simple(), []string{"a"}, []string{"a"}, act(0, halt(), out(v(0))), api.OK},
		{odd, nil, nil, halt(), api.OK}, {odd, nil, nil, call, api.ErrBeh}, {odd, []string{"i"}, nil, call, api.ErrNames},
	} {
		if n, err := show.BehTree(x.s, x.gates, x.vars, x.b); err != x.err || (n.Kind == 0) == (err == api.OK) {
			t.Errorf("BehTree, %d: %v %d", i, n, err)
		}
	}
}

// P3.4: functionalities, as the form of a behaviour tells.
func TestEnding(t *testing.T) {
	s := simple()
	s.Procs = append(s.Procs, api.Proc{Name: "R", Func: api.Func{Ends: true, Sorts: []int{1, 0}}, B: halt()})
	call := func(n int) api.Beh { return api.Beh{Kind: api.BCall, N: n} }
	let := func(b api.Beh) api.Beh {
		return api.Beh{Kind: api.BLet, Sorts: []int{1}, T: []api.Term{o(0)}, L: []api.Beh{b}}
	}
	for i, x := range []struct {
		b    api.Beh
		want string
	}{
		{halt(), "noexit"}, {exit(), "exit"}, {exit(in(1), out(o(4)), out(o(0))), "exit(int,int,nat)"}, {call(0), "noexit"}, {call(2), "exit(int,nat)"}, {act(0, exit(out(v(1)), out(v(0))), in(1), out(o(0)), in(0)), "exit(nat,int)"}, {some(some(exit(out(v(0)), out(v(2))), 0), 1, 0), "exit(int,nat)"}, {let(exit(out(v(0)))), "exit(int)"}, {let(call(0)), "noexit"}, {hide(1, exit()), "exit"}, {wait(3, call(2)), "exit(int,nat)"}, {guard(exit(), pair(o(0), o(0))), "exit"},
		{both(api.BChoice, halt(), exit(in(1))), "exit(int)"}, {both(api.BChoice, exit(in(0)), exit(in(1))), "exit(nat)"}, {both(api.BDisable, call(0), call(2)), "exit(int,nat)"}, {both(api.BDisable, exit(), call(2)), "exit"}, {both(api.BPar, halt(), exit()), "noexit"}, {both(api.BPar, exit(in(1)), halt()), "exit(int)"}, {both(api.BChoice, both(api.BPar, halt(), exit()), exit(in(0))), "exit(nat)"},
		{enable(exit(), halt()), "noexit"}, {enable(exit(in(1)), exit(out(v(0)), out(v(1))), 1, 0), "exit(int,nat)"}, {both(api.BChoice, enable(exit(), halt()), call(2)), "exit(int,nat)"},
	} {
		s.Main = x.b
		n, err := show.SpecTree(s)
		if err != api.OK {
			t.Errorf("%d: %d", i, err)
			continue
		}
		text, err := show.Spec(s)
		rest, is := strings.CutPrefix(text, "specification spec[a,b]:"+x.want)
		if err != api.OK || !is || !strings.HasPrefix(strings.TrimSpace(rest), "type data is ") || n.L[2].Kind != api.NdFunc {
			t.Errorf("%d: %q %d", i, text, err)
		}
	}
}

// P3.4: the whole of a specification.
func TestSpec(t *testing.T) {
	s := api.Spec{
		Type: api.Type{
			Sig: api.Sig{Sorts: []string{"nat", "bool"}, Ops: []api.Op{{Name: "0"}, {Name: "s", Args: []int{0}}, {Name: "_eq_", Args: []int{0, 0}, Res: 1}, {Name: "true", Res: 1}, {Name: "x1", Res: 1}, {Name: "p0"}, {Name: "g0"}}},
			Eqns: []api.Eqn{
				{Vars: []int{0, 0}, Conds: []api.Pair{pair(v(0), v(1)), pair(o(3), o(2, v(0), v(0)))}, A: o(2, o(1, v(0)), v(1)), B: o(3)}, {A: o(1, o(0)), B: o(0)}, {Vars: []int{1, 0}, A: v(1), B: v(1)},
			},
		},
		Gates: []string{"a", "data"},
		Procs: []api.Proc{
			{Name: "P", Gates: 2, Vars: []int{1, 0}, Func: api.Func{Ends: true, Sorts: []int{0}}, B: act(1, exit(out(v(1))), in(0), out(v(1)))}, {Name: "spec", B: halt(), Func: api.Func{Sorts: []int{9}}}, {Name: "P", Func: api.Func{Ends: true}, B: api.Beh{Kind: api.BCall, N: 1}},
		},
		Main: hide(1, api.Beh{Kind: api.BCall, Gates: []int{2, 0}, T: []api.Term{o(3), o(0)}}),
	}
	want := "specification spec[a,data]:exit(nat)type data is sorts nat,bool opns 0:->nat s:nat->nat_eq_:nat,nat->bool true:->bool x1:->bool p0:->nat g0:->nat " +
		"eqns forall x0:nat,x1':nat ofsort bool x0=x1',true=x0 eq x0=>s(x0)eq x1'=true;ofsort nat s(0)=0;forall x0:bool,x1':nat ofsort nat x1'=x1';endtype " +
		"behaviour hide h2 in P[h2,a](true,0)where process P[g0,g1](p0':bool,p1:nat):exit(nat):=g1?v2:nat!p1;exit(p1)endproc process spec:noexit:=stop endproc process P:exit:=spec endproc endspec"
	if text, err := show.Spec(s); text != want || err != api.OK {
		t.Errorf("%q %d", text, err)
	}
	holdSpec(t, s)
	want = "specification spec:noexit type data is endtype behaviour stop endspec"
	if text, err := show.Spec(api.Spec{Main: halt()}); text != want || err != api.OK {
		t.Errorf("%q %d", text, err)
	}
}

// P3.4: specifications that cannot be written.
func TestSpecRefused(t *testing.T) {
	for i, change := range []func(s *api.Spec){
		func(s *api.Spec) { s.Type.Sig.Ops = append(s.Type.Sig.Ops, api.Op{Name: "d", Res: 2}) }, func(s *api.Spec) { s.Type.Sig.Ops = append(s.Type.Sig.Ops, api.Op{Name: "d", Args: []int{-1}}) }, func(s *api.Spec) { s.Main = api.Beh{} },
		func(s *api.Spec) { s.Type.Eqns = []api.Eqn{{A: v(0), B: o(0)}} }, func(s *api.Spec) { s.Type.Eqns = []api.Eqn{{A: o(0), B: v(0)}} }, func(s *api.Spec) { s.Type.Eqns = []api.Eqn{{A: o(0)}} }, func(s *api.Spec) { s.Type.Eqns = []api.Eqn{{Vars: []int{2}, A: o(0), B: o(0)}} }, func(s *api.Spec) { s.Type.Eqns = []api.Eqn{{A: o(0), B: o(0), Conds: []api.Pair{{}}}} }, func(s *api.Spec) { s.Type.Eqns = []api.Eqn{{Vars: make([]int, 65), A: o(0), B: o(0)}} },
		func(s *api.Spec) { s.Procs[1].Name = "" }, func(s *api.Spec) { s.Procs[1].Name = "stop" }, func(s *api.Spec) { s.Procs[0].Name = "p#2" }, func(s *api.Spec) { s.Procs[0].Name = "+" }, func(s *api.Spec) { s.Procs[0].Name = "a b" }, func(s *api.Spec) { s.Procs[0].Name = strings.Repeat("p", api.MaxName+1) },
		func(s *api.Spec) { s.Procs[0].Gates = -1 }, func(s *api.Spec) { s.Procs[0].Gates = 33 }, func(s *api.Spec) { s.Procs[0].Gates = 1 << 62 }, func(s *api.Spec) { s.Procs[0].Vars = []int{2} }, func(s *api.Spec) { s.Procs[0].Vars = make([]int, 65) }, func(s *api.Spec) { s.Procs[0].Func = api.Func{Ends: true, Sorts: []int{2}} }, func(s *api.Spec) { s.Procs[0].B = api.Beh{} }, func(s *api.Spec) { s.Procs[0].B = act(1, halt()) }, func(s *api.Spec) { s.Procs[0].B = exit(out(v(0))) }, func(s *api.Spec) { s.Main = exit(out(v(0))) }, func(s *api.Spec) { s.Main = act(2, halt()) },
	} {
		s := simple()
		change(&s)
		if n, err := show.SpecTree(s); err != api.ErrSpec || n.Kind != 0 {
			t.Errorf("SpecTree, %d: %v %d", i, n, err)
		}
		if text, err := show.Spec(s); err != api.ErrSpec || text != "" {
			t.Errorf("Spec, %d: %q %d", i, text, err)
		}
	}
	for i, change := range []func(s *api.Spec){
		func(s *api.Spec) { s.Gates = []string{"a", "a"} }, func(s *api.Spec) { s.Gates = []string{"a b"} }, func(s *api.Spec) { s.Gates = make([]string, 33) }, func(s *api.Spec) { s.Type.Sig.Sorts[0] = "7" }, func(s *api.Spec) { s.Type.Sig.Ops[0].Name = "07" },
	} {
		s := simple()
		change(&s)
		s.Procs[1].Name = "p#2"
		s.Main = api.Beh{}
		if n, err := show.SpecTree(s); err != api.ErrNames || n.Kind != 0 {
			t.Errorf("SpecTree, %d: %v %d", i, n, err)
		}
		if text, err := show.Spec(s); err != api.ErrNames || text != "" {
			t.Errorf("Spec, %d: %q %d", i, text, err)
		}
	}
}

// P3.4: the limits of trees and texts.
func TestSpecLimits(t *testing.T) {
	acts := func(n int) api.Beh {
		b := halt()
		for range n {
			b = act(0, b)
		}
		return b
	}
	choice := func(n int) api.Beh {
		b := halt()
		for range n {
			b = both(api.BChoice, b, b)
		}
		return b
	}
	for i, x := range []struct {
		b                api.Beh
		beh, spec, shown api.Errno
	}{
		{acts(398), api.OK, api.OK, api.OK}, {acts(399), api.OK, api.ErrLimit, api.ErrLimit}, {acts(400), api.ErrLimit, api.ErrLimit, api.ErrLimit}, {acts(60000), api.ErrLimit, api.ErrLimit, api.ErrLimit},
		{choice(12), api.OK, api.OK, api.OK}, {choice(14), api.OK, api.OK, api.ErrLimit}, {choice(15), api.ErrLimit, api.ErrLimit, api.ErrLimit}, {choice(50), api.ErrLimit, api.ErrLimit, api.ErrLimit},
	} {
		s := api.Spec{Gates: []string{"a"}, Main: x.b}
		if n, err := show.BehTree(s, s.Gates, nil, x.b); err != x.beh || (n.Kind == 0) == (err == api.OK) {
			t.Errorf("BehTree, %d: %d", i, err)
		}
		if n, err := show.SpecTree(s); err != x.spec || (n.Kind == 0) == (err == api.OK) {
			t.Errorf("SpecTree, %d: %d", i, err)
		}
		if text, err := show.Spec(s); err != x.shown || (text == "") == (err == api.OK) {
			t.Errorf("Spec, %d: %d bytes, %d", i, len(text), err)
		}
	}
}

// holdSpec checks that a specification has a text, which is read as its tree.
func holdSpec(t *testing.T, s api.Spec) api.Node {
	t.Helper()
	n, err := show.SpecTree(s)
	if err != api.OK {
		t.Fatalf("SpecTree(%v): %d", s, err)
	}
	text, err := show.Spec(s)
	if own, e := show.Text(n); own != text || err != api.OK || e != api.OK {
		t.Fatalf("%q %d, and not %q %d", text, err, own, e)
	}
	if x, at, err := parse.Parse(text); err != api.OK || !parse.Same(x, n) || parse.Check(n) != api.OK {
		t.Fatalf("%q: %d at %d", text, err, at)
	}
	if again, err := show.Spec(s); again != text || err != api.OK {
		t.Fatalf("%q, and then %q", text, again)
	}
	all(n, func(y api.Node) {
		if y.At != 0 || y.End != 0 {
			t.Fatalf("%q: %v has a place", text, y)
		}
	})
	return n
}

// P3.4, P3.10, P3.11: random specifications are read as what they are.
func TestSpecsReadBack(t *testing.T) {
	m := newMaker(8, nil)
	for range 400 {
		s := m.spec()
		n := holdSpec(t, s)
		r := newReader(t, s)
		r.holdSpec(n)
	}
}

// P3.4, P3.5, P3.10: so are random behaviours, with names of all kinds.
func TestBehavioursReadBack(t *testing.T) {
	m := newMaker(9, nil)
	pool := []string{"x", "v2", "v2'", "v3", "v4", "h1", "h2", "h2'", "s", "f"}
	for range 2000 {
		s := m.spec()
		m.r.Shuffle(len(pool), func(i, j int) { pool[i], pool[j] = pool[j], pool[i] })
		gates, vars := slices.Clone(pool[:2+m.r.Intn(3)]), slices.Clone(pool[5:7+m.r.Intn(3)])
		b := m.behaviour(s, len(gates), make([]int, len(vars)), 1+m.r.Intn(5))
		n, err := show.BehTree(s, gates, vars, b)
		if err != api.OK {
			t.Fatal(b, err)
		}
		mixes, _ := show.Mixes(s.Type.Sig)
		text := holdBehaviour(t, n, mixes)
		r := newReader(t, s)
		if x := r.behaviour(n, gates, vars); behText(x) != behText(b) {
			t.Fatalf("%q is\n%s instead of\n%s", text, behText(x), behText(b))
		}
	}
}
