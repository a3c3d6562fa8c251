package sig_test

import (
	"math/rand"
	"slices"
	"strconv"
	"strings"
	"testing"

	"madrigal/api"
	"madrigal/sig"
)

// many returns a signature with that many sorts and operations.
func many(sorts, ops int) api.Sig {
	var out api.Sig
	for i := range sorts {
		out.Sorts = append(out.Sorts, "s"+strconv.Itoa(i))
	}
	for i := range ops {
		out.Ops = append(out.Ops, api.Op{Name: "o" + strconv.Itoa(i), Res: i % sorts})
	}
	return out
}

// P4.1
func TestCheckLimits(t *testing.T) {
	args := func(n int, name string) api.Sig {
		return api.Sig{Sorts: []string{"a"}, Ops: []api.Op{{Name: name, Args: make([]int, n)}}}
	}
	for _, x := range []struct {
		name string
		s    api.Sig
		want api.Errno
	}{
		{"nothing", api.Sig{}, api.OK},
		{"sorts alone", many(1, 0), api.OK},
		{"an operation without sorts", api.Sig{Ops: []api.Op{{Name: "0"}}}, api.ErrSig},
		{"64 sorts", many(64, 1), api.OK},
		{"65 sorts", many(65, 1), api.ErrSig},
		{"256 operations", many(3, 256), api.OK},
		{"257 operations", many(3, 257), api.ErrSig},
		{"8 arguments", args(8, "f"), api.OK},
		{"9 arguments", args(9, "f"), api.ErrSig},
		{"8 arguments around", args(8, "_a_a_a_a_a_a_a_a_"), api.ErrSig},
		{"8 arguments in between", args(8, "_a_a_a_a_a_a_a_"), api.OK},
		{"9 arguments in between", args(9, "_a_a_a_a_a_a_a_a_"), api.ErrSig},
		{"many arguments", args(100000, "f"), api.ErrSig},
	} {
		if err := sig.Check(x.s); err != x.want {
			t.Errorf("%s: %d", x.name, err)
		}
	}
}

// P4.1
func TestCheckNames(t *testing.T) {
	asSort := func(x string) api.Errno { return sig.Check(api.Sig{Sorts: []string{x}}) }
	asOp := func(x string, args int) api.Errno {
		return sig.Check(api.Sig{Sorts: []string{"a"}, Ops: []api.Op{{Name: x, Args: make([]int, args)}}})
	}
	for b := range 256 {
		want := api.OK
		if b < 33 || b > 126 || strings.IndexByte("(),", byte(b)) >= 0 {
			want = api.ErrSig
		}
		for _, x := range []string{string([]byte{byte(b)}), string([]byte{'x', byte(b)}), string([]byte{byte(b), 'x', 'y'})} {
			if b == '_' {
				continue
			}
			if asSort(x) != want || asOp(x, 0) != want || asOp(x, 2) != want {
				t.Errorf("%q: %d %d", x, asSort(x), asOp(x, 0))
			}
		}
	}
	for _, x := range []string{"", strings.Repeat("x", 33), strings.Repeat("x", 100000), "é", "a b", "a\n"} {
		if asSort(x) != api.ErrSig || asOp(x, 0) != api.ErrSig || asOp(x, 1) != api.ErrSig {
			t.Errorf("%q is a name", x)
		}
	}
	if x := strings.Repeat("x", 32); asSort(x) != api.OK || asOp(x, 1) != api.OK {
		t.Error("32 bytes are no name")
	}
	for _, x := range []string{"_", "a_", "_a", "a_b"} {
		if asSort(x) != api.ErrSig {
			t.Errorf("%q is a name of a sort", x)
		}
	}
	for _, x := range []struct {
		name string
		args int
		want api.Errno
	}{
		{"f", 0, api.OK}, {"f", 3, api.OK}, {"_", 0, api.ErrSig}, {"_", 1, api.ErrSig}, {"__", 2, api.ErrSig}, {"__", 0, api.ErrSig},
		{"f_", 0, api.ErrSig}, {"f_", 1, api.OK}, {"f_", 2, api.ErrSig}, {"_+", 1, api.OK}, {"_+", 2, api.ErrSig}, {"_+_", 1, api.ErrSig}, {"_+_", 2, api.OK}, {"_+_", 3, api.ErrSig},
		{"__f", 2, api.OK}, {"f__", 2, api.OK}, {"if_then_else_", 3, api.OK}, {"if_then_else_", 2, api.ErrSig},
		{"_" + strings.Repeat("x", 31), 1, api.OK}, {"_" + strings.Repeat("x", 32), 1, api.ErrSig},
	} {
		if err := asOp(x.name, x.args); err != x.want {
			t.Errorf("%q with %d arguments: %d", x.name, x.args, err)
		}
	}
}

// P4.1
func TestCheckParts(t *testing.T) {
	for name, change := range map[string]func(s *api.Sig){
		"a sort twice":               func(s *api.Sig) { s.Sorts[1] = "nat" },
		"a sort twice, far":          func(s *api.Sig) { s.Sorts = append(s.Sorts, "x", "nat") },
		"a result below":             func(s *api.Sig) { s.Ops[0].Res = -1 },
		"a result above":             func(s *api.Sig) { s.Ops[3].Res = 2 },
		"a result far":               func(s *api.Sig) { s.Ops[3].Res = 1 << 62 },
		"an argument below":          func(s *api.Sig) { s.Ops[1].Args[0] = -1 },
		"an argument above":          func(s *api.Sig) { s.Ops[3].Args[1] = 2 },
		"an operation twice":         func(s *api.Sig) { s.Ops[1] = s.Ops[0] },
		"an operation twice, far":    func(s *api.Sig) { s.Ops = append(s.Ops, api.Op{Name: "_+_", Args: []int{0, 0}}) },
		"an operation's name":        func(s *api.Sig) { s.Ops[2].Name = "_+" },
		"the last operation's name":  func(s *api.Sig) { s.Ops[3].Name = "" },
		"the first operation's name": func(s *api.Sig) { s.Ops[0].Name = "a b" },
	} {
		x := numbers()
		change(&x)
		if err := sig.Check(x); err != api.ErrSig {
			t.Errorf("%s: %d", name, err)
		}
	}
	for name, o := range map[string]api.Op{
		"another result":                 {Name: "0", Res: 1},
		"more arguments":                 {Name: "0", Args: []int{0}},
		"other arguments":                {Name: "_+_", Args: []int{0, 1}},
		"other arguments, turned":        {Name: "_+_", Args: []int{1, 0}},
		"another result of 2":            {Name: "_+_", Args: []int{0, 0}, Res: 1},
		"fewer arguments":                {Name: "s"},
		"the name of a sort":             {Name: "nat"},
		"a name with another one within": {Name: "_+_+", Args: []int{0, 0}},
	} {
		x := numbers()
		x.Ops = append(x.Ops, o)
		if err := sig.Check(x); err != api.OK {
			t.Errorf("%s: %d", name, err)
		}
		x.Ops = append(x.Ops, o)
		if err := sig.Check(x); err != api.ErrSig {
			t.Errorf("%s, twice: %d", name, err)
		}
	}
}

// P4.1
func TestCheckOverloaded(t *testing.T) {
	// All faces of f with up to 3 arguments of 3 sorts: 40 lists of arguments, 3 results.
	x := api.Sig{Sorts: []string{"a", "b", "c"}}
	lists := [][]int{nil}
	for i := 0; i < len(lists); i++ {
		if l := lists[i]; len(l) < 3 {
			for k := range 3 {
				lists = append(lists, append(slices.Clone(l), k))
			}
		}
		for k := range 3 {
			x.Ops = append(x.Ops, api.Op{Name: "f", Args: lists[i], Res: k})
		}
	}
	if err := sig.Check(x); err != api.OK || len(x.Ops) != 120 {
		t.Fatalf("%d operations: %d", len(x.Ops), err)
	}
	if l := sig.Find(x, "f"); len(l) != 120 || l[0] != 0 || l[119] != 119 {
		t.Errorf("Find: %v", l)
	}
	for _, o := range x.Ops {
		y := x
		y.Ops = append(slices.Clone(x.Ops), o)
		if sig.Check(y) != api.ErrSig {
			t.Errorf("%v twice is admitted", o)
		}
	}
}

// P4.1
func TestFind(t *testing.T) {
	x := numbers()
	x.Ops = append(x.Ops, api.Op{Name: "0", Res: 1}, api.Op{Name: "s", Res: 1}, api.Op{Name: "0", Res: 9, Args: []int{-1}}, api.Op{Name: "0"}, api.Op{})
	for name, want := range map[string][]int{"0": {0, 4, 6, 7}, "s": {1, 5}, "_+_": {2}, "_eq_": {3}, "": {8}, "+": nil, "nat": nil, "S": nil} {
		if l := sig.Find(x, name); !slices.Equal(l, want) {
			t.Errorf("%q: %v", name, l)
		}
	}
	if l := sig.Find(api.Sig{}, "0"); len(l) != 0 {
		t.Errorf("of nothing: %v", l)
	}
}

// P4.1
func TestTree(t *testing.T) {
	for _, x := range edges() {
		if err := sig.Tree(x); err != api.OK {
			t.Errorf("Tree: %d", err)
		}
	}
	for i, x := range noTrees() {
		if err := sig.Tree(x); err != api.ErrTerm {
			t.Errorf("Tree of wrong tree %d: %d", i, err)
		}
	}
}

// P4.1
func TestSort(t *testing.T) {
	n := numbers()
	x, y := v(0), v(1)
	for _, c := range []struct {
		vars []int
		t    api.Term
		k    int
		err  api.Errno
	}{
		{[]int{0}, plus(x, s(zero())), 0, api.OK},
		{[]int{0, 1}, eq(x, y), 0, api.ErrTerm},
		{[]int{0, 0}, eq(x, y), 1, api.OK},
		{[]int{0, 1}, y, 1, api.OK},
		{[]int{1, 0}, y, 0, api.OK},
		{[]int{0}, y, 0, api.ErrTerm},
		{nil, x, 0, api.ErrTerm},
		{nil, zero(), 0, api.OK},
		{nil, eq(zero(), zero()), 1, api.OK},
		{nil, s(eq(zero(), zero())), 0, api.ErrTerm},
		{nil, op(4), 0, api.ErrTerm},
		{nil, s(op(4)), 0, api.ErrTerm},
		{nil, op(1<<63 - 1), 0, api.ErrTerm},
		{nil, op(1), 0, api.ErrTerm},
		{nil, op(0, zero()), 0, api.ErrTerm},
		{nil, op(1, zero(), zero()), 0, api.ErrTerm},
		{nil, op(2, zero()), 0, api.ErrTerm},
		{nil, s(op(1)), 0, api.ErrTerm},
		{nil, plus(zero(), op(0, zero())), 0, api.ErrTerm},
		{[]int{0}, v(1<<63 - 1), 0, api.ErrTerm},
		{[]int{2}, zero(), 0, api.ErrArg},
		{[]int{0, -1}, zero(), 0, api.ErrArg},
		{[]int{0, 1 << 62}, api.Term{}, 0, api.ErrArg},
		{slices.Repeat([]int{0}, 100000), v(99999), 0, api.OK},
		{nil, high(200, zero()), 0, api.OK},
	} {
		if k, err := sig.Sort(n, c.vars, c.t); k != c.k || err != c.err {
			t.Errorf("Sort of %v over %v: %d %d", c.t, c.vars, k, err)
		}
	}
	for _, x := range noTrees() {
		if k, err := sig.Sort(n, []int{0, 1}, x); k != 0 || err != api.ErrTerm {
			t.Errorf("Sort: %d %d", k, err)
		}
	}
	n.Sorts[0] = "_"
	if k, err := sig.Sort(n, []int{2}, api.Term{}); k != 0 || err != api.ErrSig {
		t.Errorf("Sort over no signature: %d %d", k, err)
	}
}

// P4.1
func TestInfer(t *testing.T) {
	n := numbers()
	x, y := v(0), v(1)
	for _, c := range []struct {
		l     []api.Term
		sorts []int
		out   []int
		err   api.Errno
	}{
		{nil, nil, nil, api.OK},
		{[]api.Term{zero()}, []int{0}, nil, api.OK},
		{[]api.Term{zero()}, []int{1}, nil, api.ErrTerm},
		{[]api.Term{plus(x, y)}, []int{0}, []int{0, 0}, api.OK},
		{[]api.Term{plus(x, y)}, []int{1}, nil, api.ErrTerm},
		{[]api.Term{eq(x, s(x)), x}, []int{1, 0}, []int{0}, api.OK},
		{[]api.Term{eq(x, s(x)), x}, []int{1, 1}, nil, api.ErrTerm},
		{[]api.Term{x, eq(x, s(x))}, []int{1, 1}, nil, api.ErrTerm},
		{[]api.Term{y}, []int{1}, []int{-1, 1}, api.OK},
		{[]api.Term{y, x, y}, []int{1, 0, 1}, []int{0, 1}, api.OK},
		{[]api.Term{y, x, y}, []int{1, 0, 0}, nil, api.ErrTerm},
		{[]api.Term{v(3), plus(x, v(5))}, []int{1, 0}, []int{0, -1, -1, 1, -1, 0}, api.OK},
		{[]api.Term{s(eq(x, y))}, []int{0}, nil, api.ErrTerm},
		{[]api.Term{op(4)}, []int{0}, nil, api.ErrTerm},
		{[]api.Term{op(1)}, []int{0}, nil, api.ErrTerm},
		{[]api.Term{op(0, zero())}, []int{0}, nil, api.ErrTerm},
		{[]api.Term{zero()}, nil, nil, api.ErrArg},
		{nil, []int{0}, nil, api.ErrArg},
		{[]api.Term{zero(), zero()}, []int{0}, nil, api.ErrArg},
		{[]api.Term{zero()}, []int{0, 0}, nil, api.ErrArg},
		{[]api.Term{{}}, []int{2}, nil, api.ErrArg},
		{[]api.Term{{}}, []int{-1}, nil, api.ErrArg},
		{[]api.Term{x, {}}, []int{0, 0}, nil, api.ErrTerm},
		{[]api.Term{v(4000)}, []int{0}, nil, api.ErrTerm},
		{[]api.Term{x, s(v(1<<63 - 1))}, []int{0, 0}, nil, api.ErrTerm},
		{[]api.Term{s(v(3999))}, []int{0}, append(slices.Repeat([]int{-1}, 3999), 0), api.OK},
	} {
		if out, err := sig.Infer(n, c.l, c.sorts); !slices.Equal(out, c.out) || err != c.err {
			t.Errorf("Infer of %v as %v: %v %d", c.l, c.sorts, out, err)
		}
	}
	for _, x := range noTrees() {
		if out, err := sig.Infer(n, []api.Term{x}, []int{0}); len(out) != 0 || err != api.ErrTerm {
			t.Errorf("Infer: %v %d", out, err)
		}
	}
	n.Ops[0].Res = 7
	if out, err := sig.Infer(n, []api.Term{{}}, []int{9}); len(out) != 0 || err != api.ErrSig {
		t.Errorf("Infer over no signature: %v %d", out, err)
	}
}

// logic is a signature with three sorts, and operations of one name.
func logic() api.Sig {
	return api.Sig{Sorts: []string{"a", "b", "c"}, Ops: []api.Op{
		{Name: "0"}, {Name: "0", Res: 1}, {Name: "0", Res: 2},
		{Name: "f", Args: []int{0}, Res: 1}, {Name: "f", Args: []int{1}, Res: 0}, {Name: "f", Args: []int{0}, Res: 0},
		{Name: "_._", Args: []int{0, 1}, Res: 2}, {Name: "_._", Args: []int{1, 0}, Res: 2}, {Name: "g", Args: []int{2, 2}, Res: 0},
	}}
}

// anyTerm is a term of the sort k over logic, whose variables have the sorts vars; or a tree that is none, where wrong.
func anyTerm(r *rand.Rand, vars []int, k, levels int, wrong bool) api.Term {
	if wrong && r.Intn(8) == 0 {
		k = r.Intn(3)
	}
	n := slices.IndexFunc(logic().Ops, func(o api.Op) bool { return len(o.Args) == 0 && o.Res == k })
	if at := r.Intn(len(vars)); vars[at] == k && r.Intn(3) > 0 {
		return v(at)
	}
	if levels > 1 {
		for at, o := range logic().Ops {
			if o.Res == k && len(o.Args) > 0 && (r.Intn(3) == 0 || at > 6) {
				n = at
			}
		}
	}
	out := op(n)
	for _, a := range logic().Ops[n].Args {
		out.L = append(out.L, anyTerm(r, vars, a, levels-1, wrong))
	}
	return out
}

// slowSort is Sort, by the chapter's words; -1: no term.
func slowSort(s api.Sig, vars []int, t api.Term) int {
	if t.Kind == api.KVar {
		if t.N < len(vars) {
			return vars[t.N]
		}
		return -1
	}
	var args []int
	for _, x := range t.L {
		args = append(args, slowSort(s, vars, x))
	}
	if t.N < len(s.Ops) && slices.Equal(args, s.Ops[t.N].Args) {
		return s.Ops[t.N].Res
	}
	return -1
}

// P4.1, P4.9
func TestSortsOfTerms(t *testing.T) {
	r := rand.New(rand.NewSource(1))
	right := 0
	for range 20000 {
		vars := []int{r.Intn(3), r.Intn(3), r.Intn(3)}
		x := anyTerm(r, vars, r.Intn(3), 4, r.Intn(2) == 0)
		want := slowSort(logic(), vars, x)
		k, err := sig.Sort(logic(), vars, x)
		if want < 0 && (k != 0 || err != api.ErrTerm) || want >= 0 && (k != want || err != api.OK) {
			t.Fatalf("Sort of %v over %v: %d %d, not %d", x, vars, k, err, want)
		}
		if want < 0 {
			continue
		}
		right++
		// With terms of the sorts of its variables put in, it has the sort that it had.
		over := []int{r.Intn(3), r.Intn(3)}
		var l []api.Term
		for _, k := range vars {
			l = append(l, anyTerm(r, over, k, 3, false))
		}
		y, err := sig.Subst(x, l)
		if err == api.ErrLimit {
			continue
		}
		if k, err2 := sig.Sort(logic(), over, y); k != want || err != api.OK || err2 != api.OK {
			t.Fatalf("%v with %v: %d %d %d", x, l, k, err, err2)
		}
	}
	if right < 5000 {
		t.Errorf("%d terms alone", right)
	}
}

// P4.1, P4.9
func TestInferredAlone(t *testing.T) {
	r := rand.New(rand.NewSource(2))
	found, none := 0, 0
	for range 10000 {
		vars := []int{r.Intn(3), r.Intn(3), r.Intn(3)}
		var l []api.Term
		var sorts []int
		for range r.Intn(4) {
			k := r.Intn(3)
			l = append(l, anyTerm(r, vars, k, 3, r.Intn(2) == 0))
			sorts = append(sorts, k)
		}
		out, err := sig.Infer(logic(), l, sorts)
		// All sorts of three variables are tried: those that fit are those found, with any sort for variables that do not occur.
		some := false
		for code := range 27 {
			try := []int{code % 3, code / 3 % 3, code / 9}
			fits, found := true, err == api.OK
			for i, x := range l {
				fits = fits && slowSort(logic(), try, x) == sorts[i]
			}
			for i, k := range out {
				found = found && (k < 0 || try[i] == k)
			}
			if fits != found {
				t.Fatalf("Infer of %v as %v: %v %d, but %v", l, sorts, out, err, try)
			}
			some = some || fits
		}
		if some {
			found++
		} else {
			none++
		}
		if (err == api.OK) != some || err != api.OK && err != api.ErrTerm {
			t.Fatalf("Infer of %v as %v: %d", l, sorts, err)
		}
		top := -1
		for _, n := range sig.Vars(l) {
			top = max(top, n)
		}
		if err == api.OK && len(out) != top+1 {
			t.Fatalf("Infer of %v: %v", l, out)
		}
		for n, k := range out {
			if (k >= 0) != slices.Contains(sig.Vars(l), n) {
				t.Fatalf("Infer of %v: %v", l, out)
			}
		}
	}
	if found < 1000 || none < 1000 {
		t.Errorf("%d found, %d not", found, none)
	}
}
