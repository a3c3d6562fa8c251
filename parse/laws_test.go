package parse_test

import (
	"math/rand"
	"slices"
	"strconv"
	"strings"
	"testing"

	"madrigal/api"
	"madrigal/lex"
	"madrigal/parse"
)

// allMarks declares the operations of the table.
const allMarks = "type marks is opns _+_ (5 left), _*_ (6 left), _^_ (7 right), _<_ (3), -_ (6), _% (8), if_then_else_ (1) : -> s endtype "

// rightTexts calls f with random texts that are read without an error, and their trees: of specifications that declare the operations of the table, or of behaviours.
func rightTexts(seed int64, n int, symbol string, f func(m *maker, text string, n api.Node)) {
	m := newMaker(seed)
	m.mixed = true
	for n > 0 {
		text := m.text(symbol, 5+m.r.Intn(40))
		if symbol == "Spec" {
			text = strings.Replace(text, "behaviour", allMarks+"behaviour", 1)
		}
		if tree, _, err := readAs(symbol, text); err == api.OK {
			f(m, text, tree)
			n--
		}
	}
}

func readAs(symbol, text string) (api.Node, int, api.Errno) {
	switch symbol {
	case "Spec":
		return parse.Parse(text)
	case "Beh":
		return parse.Behaviour(text, table())
	}
	return parse.Expr(text, table())
}

// spread returns the tokens of a text with blanks and comments between them.
func spread(r *rand.Rand, l []api.Token) string {
	var b strings.Builder
	for _, x := range l {
		for range 1 + r.Intn(2) {
			b.WriteString([]string{" ", "\n", "\t", "\r", "(**)", " (* a; (* ) *) stop *) "}[r.Intn(6)])
		}
		b.WriteString(spelt(x))
	}
	return b.String() + " "
}

func spelt(x api.Token) string {
	if x.Kind == api.TkNum {
		return strconv.Itoa(x.N)
	}
	return x.S
}

// tokenAt returns which token begins at a byte, as many as there are for the text's end.
func tokenAt(text string, at int) int {
	l := tokensOf(text)
	i := slices.IndexFunc(l, func(x api.Token) bool { return x.At == at })
	if i < 0 && at == len(text) {
		return len(l)
	}
	return i
}

// P2.4
func TestOneTree(t *testing.T) {
	m := newMaker(2)
	m.mixed = true
	for k := range 3000 {
		symbol := []string{"Spec", "Beh", "Expr"}[k%3]
		text := m.text(symbol, 5+m.r.Intn(30))
		if k%2 == 0 {
			text = strings.Join(m.changed(strings.Fields(text)), " ")
		}
		n, at, err := readAs(symbol, text)
		joined, e := lex.Join(tokensOf(text))
		if e != api.OK {
			t.Fatal(text)
		}
		for _, other := range []string{joined, spread(m.r, tokensOf(text))} {
			x, otherAt, otherErr := readAs(symbol, other)
			if otherErr != err || !parse.Same(x, n) {
				t.Fatalf("%q: %d, %q: %d", text, err, other, otherErr)
			}
			if i := tokenAt(text, at); (err == api.ErrSyntax || err == api.ErrExpr) && (i < 0 || i != tokenAt(other, otherAt)) || err != api.ErrSyntax && err != api.ErrExpr && otherAt != at {
				t.Fatalf("%q: %d at %d, %q: %d", text, err, at, other, otherAt)
			}
		}
	}
}

// isBehaviour and isExpression say what a node stands for by its kind.
func isBehaviour(n api.Node) bool { return n.Kind >= api.NdStop && n.Kind <= api.NdWait }

func isExpression(n api.Node) bool { return n.Kind == api.NdApp || n.Kind == api.NdOf }

// holdWithin checks that places of nodes are within each other, and follow each other.
func holdWithin(t *testing.T, text string, n api.Node) {
	t.Helper()
	order := slices.Clone(n.L)
	if n.Kind == api.NdPar || n.Kind == api.NdEnable {
		order[0], order[1] = order[1], order[0]
	}
	at := n.At
	for _, x := range order {
		if n.Kind == api.NdDecl || n.Kind == api.NdTake {
			continue
		}
		if x.At < at || x.End < x.At || x.End > n.End && x.End > x.At {
			t.Fatalf("%q: the place %d to %d of %v", text, x.At, x.End, n)
		}
		at = x.End
	}
	for _, x := range n.L {
		holdWithin(t, text, x)
	}
}

// P2.5
func TestPlacesWithin(t *testing.T) {
	rightTexts(3, 400, "Beh", func(_ *maker, text string, n api.Node) {
		holdWithin(t, text, n)
		all(n, func(x api.Node) {
			symbol := ""
			switch {
			case isBehaviour(x):
				symbol = "Beh"
			case isExpression(x):
				symbol = "Expr"
			default:
				return
			}
			if y, _, err := readAs(symbol, text[x.At:x.End]); err != api.OK || !parse.Same(x, y) {
				t.Fatalf("%q: %q is read as %s, %d", text, text[x.At:x.End], shown(y), err)
			}
		})
	})
}

// all calls f with each node of a tree.
func all(n api.Node, f func(api.Node)) {
	f(n)
	for _, x := range n.L {
		all(x, f)
	}
}

// P2.6
func TestTooMuchWhateverFollows(t *testing.T) {
	m := newMaker(4)
	for k := range 3000 {
		symbol := []string{"Spec", "Beh", "Expr"}[k%3]
		text := strings.Join(m.changed(m.changed(strings.Fields(m.text(symbol, 5+m.r.Intn(30))))), " ")
		_, at, err := readAs(symbol, text)
		l := tokensOf(text)
		i := tokenAt(text, at)
		if err != api.ErrSyntax || i == len(l) {
			continue
		}
		for range 5 {
			other := text[:l[i].End] + " " + m.text([]string{"Beh", "Type", "Where"}[m.r.Intn(3)], m.r.Intn(9))
			if _, otherAt, err := readAs(symbol, other); otherAt != at || err != api.ErrSyntax {
				t.Fatalf("%q: %d, %q: %d %d", text, at, other, otherAt, err)
			}
		}
		// And what is ahead of it is not too much.
		if _, at, err := readAs(symbol, text[:at]); err == api.ErrSyntax && at != len(text[:at]) {
			t.Fatalf("%q: %d", text, at)
		}
	}
}

// P2.7
func TestBrackets(t *testing.T) {
	for _, symbol := range []string{"Expr", "Beh"} {
		rightTexts(5, 500, symbol, func(_ *maker, text string, n api.Node) {
			x, _, err := readAs(symbol, "( "+text+" )")
			if err != api.OK || !parse.Same(x, n) || x.At != 0 || x.End != len(text)+4 {
				t.Fatalf("%q: in brackets %s %d", text, shown(x), err)
			}
		})
	}
	// What is read behind an operation that binds so much is an expression up to that.
	rightTexts(6, 500, "Expr", func(_ *maker, text string, n api.Node) {
		for prio := api.MaxPrio; prio > 1; prio-- {
			if isUpTo(text, n, prio) && !isUpTo(text, n, prio-1) {
				t.Fatalf("%q is an expression up to %d, but not up to %d", text, prio, prio-1)
			}
		}
	})
}

func isUpTo(text string, n api.Node, prio int) bool {
	x, _, err := parse.Expr("upto "+text, append(table(), mix("upto", false, true, prio, 0)))
	return err == api.OK && parse.Same(x, app("upto_", n))
}

// P2.8: operations that do not occur change nothing.
func TestMoreOperations(t *testing.T) {
	m := newMaker(7)
	m.mixed = true
	more := append(table(), mix("#", true, true, 4, 0), mix("$", false, true, 9, 0), mix("# else", false, false, 1, 0), mix("$ then +", true, false, 2, api.SideLeft))
	for range 2000 {
		text := m.text("Expr", 9)
		n, at, err := parse.Expr(text, table())
		x, otherAt, otherErr := parse.Expr(text, more)
		if !parse.Same(x, n) || otherAt != at || otherErr != err {
			t.Fatalf("%q: %s %d %d, with more operations %s %d %d", text, shown(n), at, err, shown(x), otherAt, otherErr)
		}
	}
}

// P2.8: the operations of a tree are those by which its expressions were read.
func TestOpsOfTree(t *testing.T) {
	rightTexts(8, 200, "Spec", func(_ *maker, text string, n api.Node) {
		ops, err := parse.Ops(n)
		if err != api.OK || parse.CheckOps(ops) != api.OK {
			t.Fatalf("Ops of %q: %v %d", text, ops, err)
		}
		all(n, func(x api.Node) {
			if !isExpression(x) && !isBehaviour(x) {
				return
			}
			part := text[x.At:x.End]
			y, _, err := parse.Expr(part, ops)
			if isBehaviour(x) {
				y, _, err = parse.Behaviour(part, ops)
			}
			if err != api.OK || !parse.Same(x, y) {
				t.Fatalf("%q in %q: %s %d", part, text, shown(y), err)
			}
		})
	})
}

// P2.9
func TestJoined(t *testing.T) {
	last, lastTree := "stop", kind(api.NdStop)
	rightTexts(9, 300, "Beh", func(_ *maker, text string, n api.Node) {
		for _, x := range []struct {
			sign string
			want api.Node
		}{
			{">>", kind(api.NdEnable, list(), lastTree, n)}, {"[>", kind(api.NdDisable, lastTree, n)}, {"[]", kind(api.NdChoice, lastTree, n)},
			{"||", api.Node{Kind: api.NdPar, S: "||", L: []api.Node{list(), lastTree, n}}}, {"|||", api.Node{Kind: api.NdPar, S: "|||", L: []api.Node{list(), lastTree, n}}}, {"|[a]|", api.Node{Kind: api.NdPar, S: "|[", L: []api.Node{list(name("a")), lastTree, n}}},
			{">> accept x : nat in", kind(api.NdEnable, list(api.Node{Kind: api.NdDecl, S: "x", L: []api.Node{name("nat")}}), lastTree, n)},
		} {
			joined := "( " + last + " ) " + x.sign + " ( " + text + " )"
			if y, _, err := parse.Behaviour(joined, table()); err != api.OK || !parse.Same(y, x.want) {
				t.Fatalf("%q: %s %d", joined, shown(y), err)
			}
		}
		last, lastTree = text, n
	})
}

// P2.10: Check accepts what is read, and refuses what is changed so that no text has it.
func TestCheckOfTrees(t *testing.T) {
	rightTexts(10, 300, "Spec", func(m *maker, text string, n api.Node) {
		if err := parse.Check(n); err != api.OK {
			t.Fatalf("Check of the tree of %q: %d", text, err)
		}
		if bare := parse.Bare(n); !parse.Same(bare, n) || parse.Check(bare) != api.OK {
			t.Fatalf("Bare of the tree of %q", text)
		}
		nodes, _ := parse.Size(n)
		for _, change := range []func(x *api.Node){
			func(x *api.Node) { x.Kind = otherKind(x.Kind) }, func(x *api.Node) { x.Kind = 0 }, func(x *api.Node) { x.L = append(x.L, kind(api.NdSpec)) }, func(x *api.Node) { x.N = -1 }, func(x *api.Node) { x.S += " " },
		} {
			bad := parse.Bare(n)
			change(nodeOf(&bad, m.r.Intn(nodes)))
			if parse.Same(bad, n) || parse.Check(bad) != api.ErrTree {
				t.Fatalf("Check of the tree of %q, changed: %s", text, shown(bad))
			}
		}
	})
}

// otherKind returns a kind with another shape: no node of a text can have it where one of the given kind stands.
func otherKind(kind int) int {
	if kind == api.NdList {
		return api.NdStop
	}
	return api.NdList
}

// nodeOf returns the i-th node of a tree.
func nodeOf(n *api.Node, i int) *api.Node {
	if i == 0 {
		return n
	}
	i--
	for k := range n.L {
		nodes, _ := parse.Size(n.L[k])
		if i < nodes {
			return nodeOf(&n.L[k], i)
		}
		i -= nodes
	}
	return nil
}

// P2.3, P2.10: what Check reads is as short as can be.
func TestShortest(t *testing.T) {
	rightTexts(11, 500, "Spec", func(_ *maker, text string, n api.Node) {
		l := tokensOf(text)
		joined, _ := lex.Join(l)
		s, err := parse.Shortest(n)
		if err != api.OK || len(s) > len(joined) || len(tokensOf(s)) > len(l) {
			t.Fatalf("%q is longer than %q", s, joined)
		}
		if x, _, err := parse.Parse(s); err != api.OK || !parse.Same(x, n) {
			t.Fatalf("%q is read as another tree than %q", s, joined)
		}
	})
}

// P2.3, P2.10: of all short expressions with one tree Check reads the shortest one, with tables of all kinds.
func TestShortestExpressions(t *testing.T) {
	r := rand.New(rand.NewSource(12))
	for range 6 {
		var ops []api.Mix
		for len(ops) < 3 {
			x := mix([]string{"then", "%", "*", "then *"}[r.Intn(4)], r.Intn(2) == 0, r.Intn(2) == 0, 1+r.Intn(4), r.Intn(3))
			if parse.CheckOps(append(ops, x)) == api.OK {
				ops = append(ops, x)
			}
		}
		shortest := map[string]string{}
		trees := map[string]api.Node{}
		everyText(5, []string{"a", "(", ")", "of nat", "then", "%", "*"}, func(text string) {
			n, _, err := parse.Expr(text, ops)
			if err != api.OK {
				return
			}
			s, _ := lex.Join(tokensOf(text))
			if old, had := shortest[shown(n)]; !had || isShorter(s, old) {
				shortest[shown(n)] = s
			}
			trees[shown(n)] = n
		})
		base := specOf("f : -> s", kind(api.NdExit))
		base.L[3].L[0].L[5] = declarations(ops)
		for tree, s := range shortest {
			base.L[4] = kind(api.NdExit, kind(api.NdGive, trees[tree]))
			text, err := parse.Shortest(base)
			_, text, _ = strings.Cut(text, "exit(")
			text, _, _ = strings.Cut(text, ")endspec")
			text, _ = lex.Join(tokensOf(text)) // without what parts it from the bracket ahead of it
			if err != api.OK || parse.Check(base) != api.OK || isShorter(s, text) {
				t.Fatalf("%s, by %v: %q instead of %q", tree, ops, text, s)
			}
		}
	}
}

// bracketed returns a random behaviour in which all parts stand in brackets.
func (m *maker) bracketed(deep int) string {
	if deep == 0 {
		return m.pick("stop", "P", "exit ( x )", "P [ a ]")
	}
	x := func() string { return "( " + m.bracketed(m.r.Intn(deep)) + " )" }
	return m.pick(x()+" >> "+x(), x()+" >> accept x : nat in "+x(), x()+" [> "+x(), x()+" ||| "+x(), x()+" || "+x(), x()+" |[ a ]| "+x(), x()+" [] "+x(),
		"hide a in "+x(), "let x : nat = 0 in "+x(), "choice x : nat [] "+x(), "choice g in [ a ] [] "+x(), "a ; "+x(), "[ x = y ] -> "+x(), "wait 3 ; "+x())
}

// bare takes brackets out of a text, one pair after the other, as long as it has the same tree.
func (m *maker) bare(words []string, n api.Node) []string {
	pairs := bracketPairs(words)
	m.r.Shuffle(len(pairs), func(i, j int) { pairs[i], pairs[j] = pairs[j], pairs[i] })
	out := map[int]bool{}
	for _, x := range pairs {
		out[x[0]], out[x[1]] = true, true
		if y, _, err := parse.Parse(strings.Join(without(words, out), " ")); err != api.OK || !parse.Same(y, n) {
			delete(out, x[0])
			delete(out, x[1])
		}
	}
	return without(words, out)
}

func bracketPairs(words []string) [][2]int {
	var open []int
	var pairs [][2]int
	for i, x := range words {
		switch x {
		case "(":
			open = append(open, i)
		case ")":
			pairs = append(pairs, [2]int{open[len(open)-1], i})
			open = open[:len(open)-1]
		}
	}
	return pairs
}

func without(words []string, out map[int]bool) []string {
	var l []string
	for i, x := range words {
		if !out[i] {
			l = append(l, x)
		}
	}
	return l
}

// P2.3, P2.9, P2.10: behaviours of all forms within each other are read with all brackets, and with no more than they need, which are as many as those of what Check reads.
func TestLeastBrackets(t *testing.T) {
	m := newMaker(14)
	for range 1500 {
		words := strings.Fields("specification x : noexit behaviour " + m.bracketed(1+m.r.Intn(4)) + " endspec")
		text := strings.Join(words, " ")
		n, at, err := parse.Parse(text)
		if err != api.OK || parse.Check(n) != api.OK {
			t.Fatalf("%q: %d %d", text, at, err)
		}
		bare, _ := lex.Join(tokensOf(strings.Join(m.bare(words, n), " ")))
		s, err := parse.Shortest(n)
		if err != api.OK || len(tokensOf(s)) != len(tokensOf(bare)) || len(s) > len(bare) {
			t.Fatalf("%q: %q instead of %q", text, s, bare)
		}
	}
}

// isShorter reports whether a text has fewer tokens, or bytes, than another one.
func isShorter(a, b string) bool {
	return len(tokensOf(a)) < len(tokensOf(b)) || len(a) < len(b)
}

func everyText(n int, words []string, f func(string)) {
	if n == 0 {
		return
	}
	for _, x := range words {
		f(x)
		everyText(n-1, words, func(s string) { f(x + " " + s) })
	}
}

// declarations is the list of nodes that declare operations.
func declarations(ops []api.Mix) api.Node {
	l := list()
	for _, x := range ops {
		s, _ := parse.MixName(x)
		l.L = append(l.L, api.Node{Kind: api.NdOp, S: s, N: 4*x.Prio + x.Side, L: []api.Node{list(), name("s")}})
	}
	return l
}

// P2.11
func TestAroundTrees(t *testing.T) {
	rightTexts(13, 200, "Spec", func(_ *maker, text string, n api.Node) {
		for at := -1; at <= len(text); at++ {
			way, is := parse.Around(n, at)
			if is != (n.At <= at && at < n.End) {
				t.Fatalf("Around(%q, %d): %v", text, at, is)
			}
			if !is {
				continue
			}
			x := n
			for _, i := range way {
				x = x.L[i]
			}
			if at < x.At || at >= x.End || slices.ContainsFunc(x.L, func(y api.Node) bool { return y.At <= at && at < y.End }) {
				t.Fatalf("Around(%q, %d): %v", text, at, way)
			}
		}
	})
}

// P2.12
func TestChains(t *testing.T) {
	for prio := 1; prio <= api.MaxPrio; prio++ {
		for n := 1; n <= 6; n++ {
			left, right := app("a"), app("a")
			text := "a" + strings.Repeat(" + a", n)
			for range n {
				left = app("_+_", left, app("a"))
				right = app("_+_", app("a"), right)
			}
			for side, want := range []api.Node{left, left, right} {
				x, at, err := parse.Expr(text, []api.Mix{mix("+", true, true, prio, side)})
				if side == api.SideNone && n > 1 {
					reading{text: text, at: 6, err: api.ErrExpr}.hold(t, x, at, err)
				} else {
					reading{text: text, want: shown(want)}.hold(t, x, at, err)
				}
			}
		}
		for other := 1; other < prio; other++ {
			for sides := range 9 {
				ops := []api.Mix{mix("+", true, true, other, sides%3), mix("*", true, true, prio, sides/3)}
				x, at, err := parse.Expr("a * b + c * d", ops)
				good("a * b + c * d", "_+_(_*_(a b) _*_(c d))").hold(t, x, at, err)
			}
		}
	}
}

// randomNode returns a node of any kind, with anything in it.
func randomNode(r *rand.Rand, deep int) api.Node {
	kinds := []int{0, -1, 99, api.NdName, api.NdList, api.NdApp}
	for k := range kindNames {
		kinds = append(kinds, k)
	}
	slices.Sort(kinds)
	n := api.Node{Kind: kinds[r.Intn(len(kinds))], N: r.Intn(44) - 3, At: r.Intn(9) - 2, End: r.Intn(9) - 2}
	n.S = []string{"", "a", "_+_", "_", "__", "0", "-1", "i", "|[", "a_b", "if_then_", "\xff", "(*"}[r.Intn(13)]
	for range r.Intn(7) {
		if deep > 0 {
			n.L = append(n.L, randomNode(r, deep-1))
		}
	}
	return n
}

// P2.2, P2.3, and the rule R1: no tree makes a call panic, and none that is no text's is accepted.
func TestAnyTree(t *testing.T) {
	r := rand.New(rand.NewSource(15))
	for range 3000 {
		n := randomNode(r, 4)
		if r.Intn(2) == 0 {
			whole := specOf("_+_ : -> s", kind(api.NdStop))
			nodes, _ := parse.Size(whole)
			*nodeOf(&whole, r.Intn(nodes)) = n
			n = whole
		}
		err := parse.Check(n)
		ops, opsErr := parse.Ops(n)
		if err != api.OK && err != api.ErrTree || opsErr != err || err != api.OK && ops != nil {
			t.Fatalf("Check and Ops of %v: %d %d %v", n, err, opsErr, ops)
		}
		if s, e := parse.Shortest(n); err == api.OK {
			if x, _, parseErr := parse.Parse(s); e != api.OK || parseErr != api.OK || !parse.Same(x, n) {
				t.Fatalf("Check of %v", n)
			}
		}
		if !parse.Same(n, parse.Bare(n)) {
			t.Fatalf("Bare of %v", n)
		}
		for at := -3; at < 8; at++ {
			if _, is := parse.Around(n, at); is != (n.At <= at && at < n.End) {
				t.Fatalf("Around of %v", n)
			}
		}
	}
}
