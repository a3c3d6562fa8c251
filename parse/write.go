package parse

import (
	"strconv"
	"strings"

	"madrigal/api"
	"madrigal/lex"
)

// unwritable is thrown where no text has such a tree.
type unwritable struct{}

// writer writes trees as tokens, as few as can be. What no text can have is written nevertheless: it is not read back as it was.
type writer struct {
	tokens     []api.Token
	rules      map[int]func(*writer, api.Node)       // of what stands in lists, by kinds
	behaviours map[int]func(*writer, api.Node, bool) // of behaviours, by kinds
	ops        map[string]operation                  // by names
}

// shortest returns a text such that no shorter one, and none of fewer tokens, has this tree, if any text has it.
func shortest(n api.Node) (text string, err api.Errno) {
	if !fits(n) || letters(n) > api.MaxTree*api.MaxName+2*api.MaxText {
		return "", api.ErrTree
	}
	defer func() {
		if _, ok := recover().(unwritable); ok {
			text, err = "", api.ErrTree
		}
	}()
	w := newWriter(declared(n))
	w.specification(n)
	return lex.Join(w.tokens)
}

// letters returns how many bytes the names in a tree have.
func letters(n api.Node) int {
	sum := len(n.S)
	for _, x := range n.L {
		sum += letters(x)
	}
	return sum
}

func newWriter(ops []api.Mix) *writer {
	w := &writer{
		rules: map[int]func(*writer, api.Node){
			api.NdProc:   (*writer).process,
			api.NdLib:    (*writer).library,
			api.NdType:   (*writer).plain,
			api.NdRename: (*writer).renamed,
			api.NdActual: (*writer).actualized,
			api.NdTo:     (*writer).to,
			api.NdEqns:   (*writer).group,
			api.NdEq:     (*writer).pair,
			api.NdName:   (*writer).leaf,
			api.NdBind:   (*writer).binding,
			api.NdGate:   (*writer).picked,
			api.NdGive:   (*writer).given,
			api.NdAny:    (*writer).given,
			api.NdApp:    (*writer).expression,
			api.NdOf:     (*writer).expression,
		},
		behaviours: map[int]func(*writer, api.Node, bool){
			api.NdStop:    (*writer).stop,
			api.NdExit:    (*writer).exit,
			api.NdPre:     (*writer).action,
			api.NdChoice:  (*writer).sum,
			api.NdPar:     (*writer).parallel,
			api.NdHide:    (*writer).hide,
			api.NdEnable:  (*writer).enabling,
			api.NdDisable: (*writer).disabling,
			api.NdGuard:   (*writer).guard,
			api.NdLet:     (*writer).let,
			api.NdSome:    (*writer).some,
			api.NdPick:    (*writer).pick,
			api.NdCall:    (*writer).call,
			api.NdWait:    (*writer).wait,
		},
		ops: map[string]operation{},
	}
	for _, x := range ops {
		w.ops[nameOf(x)] = operation{x, nameOf(x)}
	}
	return w
}

// element returns an element of a node that has to have it.
func element(n api.Node, i int) api.Node {
	if i >= len(n.L) {
		panic(unwritable{})
	}
	return n.L[i]
}

func (w *writer) put(t api.Token) {
	if len(w.tokens) == api.MaxTokens {
		panic(unwritable{})
	}
	w.tokens = append(w.tokens, t)
}

// words writes words of the language, and signs.
func (w *writer) words(l ...string) {
	for _, x := range l {
		w.put(wordToken(x))
	}
}

func wordToken(s string) api.Token {
	if isLetter(s[0]) {
		return api.Token{Kind: api.TkKey, S: s}
	}
	return api.Token{Kind: api.TkSign, S: s}
}

// name writes a name, a name of symbols, or a number.
func (w *writer) name(s string) { w.put(nameToken(s)) }

func nameToken(s string) api.Token {
	if n, err := strconv.Atoi(s); err == nil {
		return api.Token{Kind: api.TkNum, N: n}
	}
	return partToken(s)
}

// partToken returns the token of an operation's part; it is not right if the part is none.
func partToken(s string) api.Token {
	if s != "" && isLetter(s[0]) {
		return api.Token{Kind: api.TkName, S: s}
	}
	return api.Token{Kind: api.TkSym, S: s}
}

func isLetter(b byte) bool { return 'a' <= b && b <= 'z' || 'A' <= b && b <= 'Z' }

// shape writes a Shape: parts, and "_" between, ahead of or behind them.
func (w *writer) shape(s string) {
	for s != "" {
		if s[0] == '_' {
			w.words("_")
			s = s[1:]
			continue
		}
		part, _, _ := strings.Cut(s, "_")
		w.name(part)
		s = s[len(part):]
	}
}

// one writes a node by the rule of its kind.
func (w *writer) one(n api.Node) {
	rule := w.rules[n.Kind]
	if rule == nil {
		panic(unwritable{})
	}
	rule(w, n)
}

// all writes nodes one behind the other.
func (w *writer) all(l []api.Node) {
	for _, x := range l {
		w.one(x)
	}
}

// separated writes nodes with "," between.
func (w *writer) separated(l []api.Node) {
	for i, x := range l {
		if i > 0 {
			w.words(",")
		}
		w.one(x)
	}
}

// around writes what is in brackets, if there is something in a list.
func (w *writer) around(open string, l []api.Node, end string, write func([]api.Node)) {
	if len(l) > 0 {
		w.words(open)
		write(l)
		w.words(end)
	}
}

// behind writes what stands behind a word, if there is something in a list.
func (w *writer) behind(word string, l []api.Node, write func([]api.Node)) {
	if len(l) > 0 {
		w.words(word)
		write(l)
	}
}

func (w *writer) leaf(n api.Node) { w.name(n.S) }

func (w *writer) specification(n api.Node) {
	w.words("specification")
	w.head(n)
	w.all(element(n, 3).L)
	w.words("behaviour")
	w.body(n, 4)
	w.words("endspec")
}

func (w *writer) process(n api.Node) {
	w.words("process")
	w.head(n)
	w.words(":=")
	w.body(n, 3)
	w.words("endproc")
}

func (w *writer) head(n api.Node) {
	w.name(n.S)
	w.around("[", element(n, 0).L, "]", w.separated)
	w.around("(", element(n, 1).L, ")", w.declarations)
	w.words(":")
	function := element(n, 2)
	if function.N == 0 {
		w.words("noexit")
		return
	}
	w.words("exit")
	w.around("(", function.L, ")", w.separated)
}

// body writes the behaviour that is the i-th element, and the Where behind it.
func (w *writer) body(n api.Node, i int) {
	w.behaviour(element(n, i), levelEnable, true)
	w.behind("where", element(n, i+1).L, w.all)
}

// declarations writes names with their sorts; those that stand side by side share one.
func (w *writer) declarations(l []api.Node) {
	for i, x := range l {
		if i > 0 {
			w.words(",")
		}
		w.name(x.S)
		if !isShared(l, i) {
			w.words(":")
			w.one(element(x, 0))
		}
	}
}

// isShared reports whether the node behind the i-th one is of the same kind, and has the same elements.
func isShared(l []api.Node, i int) bool {
	if i < 0 || i+1 == len(l) || l[i].Kind != l[i+1].Kind || len(l[i].L) != len(l[i+1].L) {
		return false
	}
	for k := range l[i].L {
		if !Same(l[i].L[k], l[i+1].L[k]) {
			return false
		}
	}
	return true
}

func (w *writer) library(n api.Node) {
	w.words("library")
	w.separated(n.L)
	w.words("endlib")
}

func (w *writer) typeHead(n api.Node) {
	w.words("type")
	w.name(n.S)
	w.words("is")
}

func (w *writer) plain(n api.Node) {
	w.typeHead(n)
	w.separated(element(n, 0).L)
	for i, formal := range []string{"formal", ""} {
		w.behind(formal+"sorts", element(n, 3*i+1).L, w.separated)
		w.behind(formal+"opns", element(n, 3*i+2).L, w.operations)
		w.behind(formal+"eqns", element(n, 3*i+3).L, w.all)
	}
	w.words("endtype")
}

func (w *writer) renamed(n api.Node) {
	w.typeHead(n)
	w.one(element(n, 0))
	w.words("renamedby")
	w.renamings(n, 1)
}

func (w *writer) actualized(n api.Node) {
	w.typeHead(n)
	w.one(element(n, 0))
	w.words("actualizedby")
	w.separated(element(n, 1).L)
	w.words("using")
	w.renamings(n, 2)
}

// renamings writes the lists from the i-th element on.
func (w *writer) renamings(n api.Node, i int) {
	w.behind("sortnames", element(n, i).L, w.all)
	w.behind("opnnames", element(n, i+1).L, w.all)
	w.words("endtype")
}

func (w *writer) to(n api.Node) {
	w.shape(element(n, 0).S)
	w.words("for")
	w.shape(element(n, 1).S)
}

func (w *writer) operations(l []api.Node) {
	for i, x := range l {
		w.shape(x.S)
		if x.N != order(api.MaxPrio, api.SideNone) {
			w.order(x)
		}
		if isShared(l, i) {
			w.words(",")
			continue
		}
		w.words(":")
		w.separated(element(x, 0).L)
		w.words("->")
		w.one(element(x, 1))
	}
}

// order writes the priority and the side of an operation.
func (w *writer) order(n api.Node) {
	w.words("(")
	w.put(api.Token{Kind: api.TkNum, N: prioOf(n)})
	switch sideOf(n) {
	case api.SideLeft:
		w.name("left")
	case api.SideRight:
		w.name("right")
	}
	w.words(")")
}

func (w *writer) group(n api.Node) {
	w.behind("forall", element(n, 0).L, w.declarations)
	w.words("ofsort")
	w.name(n.S)
	for _, x := range element(n, 1).L {
		if conds := element(x, 0).L; len(conds) > 0 {
			w.separated(conds)
			w.words("=>")
		}
		w.one(element(x, 1))
		w.words(";")
	}
}

func (w *writer) pair(n api.Node) {
	w.one(element(n, 0))
	w.words("=")
	w.one(element(n, 1))
}
