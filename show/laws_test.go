package show_test

import (
	"slices"
	"strconv"
	"strings"
	"testing"

	"madrigal/api"
	"madrigal/lex"
	"madrigal/parse"
	"madrigal/show"
)

// holdExpr checks that an expression has a text that is read as it, and returns this.
func holdExpr(t *testing.T, n api.Node, ops []api.Mix) string {
	t.Helper()
	s, err := show.Expr(n, ops)
	if err != api.OK {
		t.Fatalf("Expr(%v): %d", n, err)
	}
	if x, at, err := parse.Expr(s, ops); err != api.OK || !parse.Same(x, n) {
		t.Fatalf("%q is read as %v, %d at %d, instead of %v", s, x, err, at, n)
	}
	return s
}

func holdBehaviour(t *testing.T, n api.Node, ops []api.Mix) string {
	t.Helper()
	s, err := show.Behaviour(n, ops)
	if err != api.OK {
		t.Fatalf("Behaviour(%v): %d", n, err)
	}
	if x, at, err := parse.Behaviour(s, ops); err != api.OK || !parse.Same(x, n) {
		t.Fatalf("%q is read as %v, %d at %d, instead of %v", s, x, err, at, n)
	}
	return s
}

// holdNeeded checks that no pair of brackets can be taken out of a text.
func holdNeeded(t *testing.T, s string, isSame func(string) bool) {
	t.Helper()
	l := tokensOf(s)
	for _, pair := range bracketPairs(l) {
		if other := joined(t, without(l, pair)); isSame(other) {
			t.Fatalf("%q has brackets that %q has not", s, other)
		}
	}
}

// P3.1, P3.5, P3.6: expressions and behaviours.
func TestReadBack(t *testing.T) {
	for _, ops := range [][]api.Mix{table(), more()} {
		m := newMaker(1, ops)
		for range 2000 {
			n := m.expr(1 + m.r.Intn(4))
			s := holdExpr(t, n, ops)
			holdNeeded(t, s, func(other string) bool {
				x, _, err := parse.Expr(other, ops)
				return err == api.OK && parse.Same(x, n)
			})
		}
		for range 1500 {
			n := m.beh(1 + m.r.Intn(4))
			s := holdBehaviour(t, n, ops)
			holdNeeded(t, s, func(other string) bool {
				x, _, err := parse.Behaviour(other, ops)
				return err == api.OK && parse.Same(x, n)
			})
		}
	}
}

// P3.1, P3.2, P3.5, P3.8: texts.
func TestTextsReadBack(t *testing.T) {
	m := newMaker(2, more())
	for range 150 {
		n := m.text()
		s, err := show.Text(n)
		if err != api.OK {
			t.Fatalf("Text(%v): %d", n, err)
		}
		if x, _, err := parse.Parse(s); err != api.OK || !parse.Same(x, n) {
			t.Fatalf("%q is read as %v, %d", s, x, err)
		}
		if l := tokensOf(s); s != joined(t, l) {
			t.Fatalf("%q has more blanks than it needs", s)
		}
		for _, width := range []int{api.MinWidth, api.MinWidth + 1, 33, 80, api.MaxWidth} {
			laid, err := show.Lay(n, width)
			if err != api.OK || !slices.Equal(bare(tokensOf(laid)), bare(tokensOf(s))) {
				t.Fatalf("%q has not the tokens of %q: %d", laid, s, err)
			}
			if x, _, err := parse.Parse(laid); err != api.OK || !parse.Same(x, n) {
				t.Fatalf("%q is read as %v, %d", laid, x, err)
			}
			holdLines(t, laid, s, width)
		}
	}
}

// sequences calls f with each text of up to n of these words, as long as what there is so far can go on.
func sequences(n int, words []string, f func(string) (goesOn bool)) {
	var more func(text string, n int)
	more = func(text string, n int) {
		for _, x := range words {
			longer := strings.TrimSpace(text + " " + x)
			if f(longer) && n > 1 {
				more(longer, n-1)
			}
		}
	}
	more("", n)
}

// fewest is the trees of texts, and how many tokens the shortest text of each has.
type fewest struct {
	trees  map[string]api.Node
	tokens map[string]int
}

// fewestOf finds the trees of all short texts.
func fewestOf(n int, words []string, read func(string) (api.Node, int, api.Errno)) fewest {
	f := fewest{map[string]api.Node{}, map[string]int{}}
	sequences(n, words, func(text string) bool {
		n, at, err := read(text)
		if err == api.OK {
			key := shown(n)
			count := len(tokensOf(text))
			if old, had := f.tokens[key]; !had || count < old {
				f.tokens[key] = count
			}
			f.trees[key] = n
		}
		return err == api.OK || at == len(text)
	})
	return f
}

// shown tells trees apart.
func shown(n api.Node) string {
	s := strconv.Itoa(n.Kind) + ":" + strconv.Itoa(n.N) + n.S + "("
	for _, x := range n.L {
		s += shown(x)
	}
	return s + ")"
}

// P3.5, P3.6, P3.7: of all short expressions with one tree Expr returns one of the shortest, with tables of all kinds.
func TestShortestExpressions(t *testing.T) {
	words := []string{"a", "(", ")", "of nat", "then", "%", "*"}
	m := newMaker(3, nil)
	for range 20 {
		var ops []api.Mix
		for len(ops) < 3 {
			x := mix(m.pick("then", "%", "*", "then *"), m.r.Intn(2) == 0, m.r.Intn(2) == 0, 1+m.r.Intn(4), m.r.Intn(3))
			if parse.CheckOps(append(ops, x)) == api.OK {
				ops = append(ops, x)
			}
		}
		found := fewestOf(5, words, func(text string) (api.Node, int, api.Errno) { return parse.Expr(text, ops) })
		for key, n := range found.trees {
			if s := holdExpr(t, n, ops); len(tokensOf(s)) > found.tokens[key] {
				t.Fatalf("%q, by %v: %d tokens suffice", s, ops, found.tokens[key])
			}
		}
	}
}

// P3.5, P3.6, P3.7: of all short behaviours with one tree Behaviour returns one of the shortest.
func TestShortestBehaviours(t *testing.T) {
	read := func(text string) (api.Node, int, api.Errno) { return parse.Behaviour(text, nil) }
	for _, words := range [][]string{
		{"stop", "(", ")", "[]", "[>", "hide a in"},
		{"P", "(", ")", "|||", ">>", "a ;", "let x : s = x in"},
		{"exit", "(", ")", "||", "[]", "choice g in [ a ] []", "[ x = x ] ->"},
		{"P", "(", ")", "|[ a ]|", "[>", ">>", "wait 3 ;", "choice x : s []"},
	} {
		found := fewestOf(7, words, read)
		for key, n := range found.trees {
			if s := holdBehaviour(t, n, nil); len(tokensOf(s)) > found.tokens[key] {
				t.Fatalf("%q: %d tokens suffice", s, found.tokens[key])
			}
		}
	}
}

// loose returns a text with more brackets around parts of it.
func (m *maker) loose(t *testing.T, text string, n api.Node) string {
	t.Helper()
	var places []api.Node
	all(n, func(x api.Node) {
		if x.Kind == api.NdApp || x.Kind == api.NdOf || x.Kind >= api.NdStop && x.Kind <= api.NdWait {
			places = append(places, x)
		}
	})
	before, behind := map[int]string{}, map[int]string{}
	for _, x := range places {
		if m.r.Intn(3) == 0 {
			before[x.At] += "("
			behind[x.End] += ")"
		}
	}
	var b strings.Builder
	for i := range len(text) + 1 {
		b.WriteString(behind[i])
		if before[i] != "" {
			b.WriteString(" " + before[i])
		}
		if i < len(text) {
			b.WriteByte(text[i])
		}
	}
	return b.String()
}

// P3.7: the text of what is read of any text, whose lists are written one by one, has no more tokens.
func TestNoMoreTokens(t *testing.T) {
	m := newMaker(4, more())
	longer := 0
	for range 300 {
		n := m.text()
		s, err := show.Text(n)
		if err != api.OK {
			t.Fatal(n, err)
		}
		placed, _, _ := parse.Parse(s)
		text := m.loose(t, s, placed)
		x, _, err := parse.Parse(text)
		if err != api.OK || !parse.Same(x, n) {
			t.Fatalf("%q, with more brackets: %q, %d", s, text, err)
		}
		again, err := show.Text(x)
		if err != api.OK || again != s {
			t.Fatalf("%q is shown as %q, %d", text, again, err)
		}
		if len(tokensOf(text)) > len(tokensOf(s)) {
			longer++
		}
	}
	if longer < 200 {
		t.Fatalf("only %d texts had more brackets", longer)
	}
}

// P3.7: names that are put together are written one by one.
func TestOneByOne(t *testing.T) {
	for _, x := range []struct{ text, want string }{
		{"specification x (n, m : s, k : t) : noexit behaviour stop endspec", "specification x(n:s,m:s,k:t):noexit behaviour stop endspec"},
		{"specification x : noexit type t is opns a, b, _+_ (5 left), f : s, u -> s endtype behaviour stop endspec", "specification x:noexit type t is opns a:s,u->s b:s,u->s_+_(5 left):s,u->s f:s,u->s endtype behaviour stop endspec"},
		{"specification x : noexit behaviour g ?n, m : s ?k : t; P >> accept n, m : s in choice n, m : s, k : t [] Q endspec", "specification x:noexit behaviour g?n:s?m:s?k:t;P>>accept n:s,m:s in choice n:s,m:s,k:t[]Q endspec"},
		{"specification x : noexit type t is eqns forall n, m : s ofsort s n = m; endtype behaviour stop endspec", "specification x:noexit type t is eqns forall n:s,m:s ofsort s n=m;endtype behaviour stop endspec"},
	} {
		n, at, err := parse.Parse(x.text)
		if err != api.OK {
			t.Fatalf("%q: %d at %d", x.text, err, at)
		}
		if s, err := show.Text(n); s != x.want || err != api.OK {
			t.Errorf("%q, %d; not %q", s, err, x.want)
		}
	}
}

// P3.12
func TestPartsInBrackets(t *testing.T) {
	m := newMaker(5, table())
	found := 0
	for range 3000 {
		n := m.beh(2 + m.r.Intn(4))
		s := holdBehaviour(t, n, table())
		placed, _, _ := parse.Behaviour(s, table())
		l := tokensOf(s)
		inBrackets := map[[2]int]bool{}
		for _, pair := range bracketPairs(l) {
			inBrackets[[2]int{l[pair[0]].At, l[pair[1]].End}] = true
		}
		all(placed, func(x api.Node) {
			if x.Kind < api.NdStop || x.Kind > api.NdWait || !inBrackets[[2]int{x.At, x.End}] {
				return
			}
			found++
			if own, err := show.Behaviour(x, table()); own != s[x.At+1:x.End-1] || err != api.OK {
				t.Fatalf("%q stands in %q: %d", own, s, err)
			}
		})
	}
	if found < 500 {
		t.Fatalf("only %d behaviours stood in brackets", found)
	}
}

// holdShown checks that Behaviour shows exactly the trees that can stand in a text.
func holdShown(t *testing.T, n api.Node, ops []api.Mix) bool {
	t.Helper()
	s, err := show.Behaviour(n, ops)
	if parse.Check(specOf(ops, n)) == api.OK {
		if err != api.OK {
			t.Fatalf("Behaviour(%v): %d", n, err)
		}
		return true
	}
	if s != "" || err != api.ErrShown {
		t.Fatalf("Behaviour(%v): %q %d", n, s, err)
	}
	return false
}

// P3.1: what is no tree of a behaviour is refused, wherever it is wrong.
func TestWrongTrees(t *testing.T) {
	m := newMaker(6, table())
	right := 0
	for range 8000 {
		n := m.beh(2)
		count, _ := parse.Size(n)
		x := nodeOf(&n, m.r.Intn(count))
		switch m.r.Intn(7) {
		case 0:
			x.Kind = []int{0, -1, 99, 7, 8, 9, 10, 11, 12, 13, 14, 15, 20, 21, 22, 23, 24, 25, 26, 27, 28, 29, 30, 31, 32, 33, 40, 41, 42, 43, 44, 45, 50, 51}[m.r.Intn(34)]
		case 1:
			x.N = []int{-1, 0, 1, 2, 3, 36, 2147483648}[m.r.Intn(7)]
		case 2:
			x.S = m.pick("", "a", "+", "i", "7", "07", "-7", "stop", "_+_", "-", "-_", "if", "|[", "||", "a b", "(*", "2147483648", "aaaaaaaaaaaaaaaaaaaaaaaaaaaaaaaaa", "\xff", "lo_hi")
		case 3:
			x.L = append(x.L, stop())
		case 4:
			x.L = append(x.L, m.expr(1))
		case 5:
			x.L = append(x.L, name("a"))
		case 6:
			if len(x.L) > 0 {
				i := m.r.Intn(len(x.L))
				x.L = slices.Delete(x.L, i, i+1)
			}
		}
		if holdShown(t, n, table()) {
			right++
		}
	}
	if right < 500 || right > 7500 {
		t.Fatalf("%d trees were right", right)
	}
}

// P3.5: what names are apart from each other in a text is so in the text that is shown.
func TestBlanks(t *testing.T) {
	ops := []api.Mix{mix("then", true, true, 5, 0), mix("+", true, true, 5, 0), mix("x", false, true, 5, 0)}
	for _, x := range []struct {
		n    api.Node
		want string
	}{
		{app("_then_", app("a"), app("7")), "a then 7"}, {app("_+_", app("+"), app("*")), "+ + *"}, {app("x_", app("x_", app("7"))), "x x 7"}, {app("*", app("*")), "*( *)"}, {app("f", app("*")), "f( *)"}, {of("nat", app("f", app("a"))), "f(a)of nat"},
	} {
		if s := holdExpr(t, x.n, ops); s != x.want {
			t.Errorf("%q instead of %q", s, x.want)
		}
	}
	if _, err := lex.Join(tokensOf("f( *)")); err != api.OK {
		t.Error(err)
	}
}
