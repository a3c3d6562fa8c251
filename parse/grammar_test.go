package parse_test

import (
	"math/rand"
	"regexp"
	"slices"
	"strconv"
	"strings"
	"testing"

	"madrigal/api"
	"madrigal/lex"
	"madrigal/parse"
)

// rules: the chapter's grammar, but that Expr, Shape and Mark (a Shape with what stands in brackets behind it) are read as far as they go, and that a condition stands behind an Offer.
const rules = `
Spec = "specification" name Gates Params ":" Func { Lib / Type } "behaviour" Beh Where "endspec"
Proc = "process" name Gates Params ":" Func ":=" Beh Where "endproc"
Where = [ "where" { Type / Proc } ]
Gates = [ "[" name, .. "]" ]
Params = [ "(" Decls ")" ]
Decls = name, .. ":" name { "," name, .. ":" name }
Func = "noexit" / "exit" [ "(" name, .. ")" ]
Lib = "library" name, .. "endlib"
Type = "type" name "is" ( Plain / Rename / Actual ) "endtype"
Plain = [ name, .. ] [ "formalsorts" name, .. ] [ "formalopns" { Op } ] [ "formaleqns" { Eqns } ] [ "sorts" name, .. ] [ "opns" { Op } ] [ "eqns" { Eqns } ]
Rename = name "renamedby" [ "sortnames" { To } ] [ "opnnames" { To } ]
Actual = name "actualizedby" name, .. "using" [ "sortnames" { To } ] [ "opnnames" { To } ]
To = Shape "for" Shape
Op = Mark, .. ":" [ name, .. ] "->" name
Eqns = [ "forall" Decls ] "ofsort" name { Eqn ";" }
Eqn = [ Eq, .. "=>" ] Eq
Eq = Expr "=" Expr
Beh = Dis [ ">>" [ "accept" Decls "in" ] Beh ]
Dis = Parts [ "[>" Dis ]
Parts = Sum [ ( "|||" / "||" / "|[" name, .. "]|" ) Parts ]
Sum = Pre [ "[]" Sum ]
Pre = "[" Eq, .. "]" "->" Pre / Gate [ Offer { Offer } [ "[" Eq, .. "]" ] ] [ Win ] ";" Pre / "wait" number ";" Pre / "hide" name, .. "in" Beh / "let" Bind, .. "in" Beh / "choice" Decls "[]" Beh / "choice" Pick, .. "[]" Beh / "stop" / "exit" [ "(" ( Expr / "any" name ), .. ")" ] / name Gates [ "(" Expr, .. ")" ] / "(" Beh ")"
Pick = name "in" "[" name, .. "]"
Gate = name / "i"
Offer = "!" Expr / "?" name, .. ":" name
Win = "{" number [ ".." [ number ] ] "}"
Bind = name ":" name "=" Expr
`

// grammar: for each symbol what it can become, one after the other.
type grammar map[string][][]string

func newGrammar() grammar {
	g := grammar{}
	for _, line := range strings.Split(strings.TrimSpace(rules), "\n") {
		left, right, _ := strings.Cut(line, " = ")
		r := &ruleReader{g: g, words: regexp.MustCompile(`"[^"]*"|\w+|\.\.|\S`).FindAllString(right, -1), of: left}
		g[left] = r.choices()
	}
	return g
}

type ruleReader struct {
	g     grammar
	words []string
	of    string
	fresh int
}

func (r *ruleReader) now() string {
	if len(r.words) == 0 {
		return ""
	}
	return r.words[0]
}

func (r *ruleReader) choices() [][]string {
	out := [][]string{r.row()}
	for r.now() == "/" {
		r.words = r.words[1:]
		out = append(out, r.row())
	}
	return out
}

func (r *ruleReader) row() []string {
	out := []string{}
	for !strings.Contains("/}])", r.now()) {
		x := r.one()
		if r.now() == "," {
			r.words = r.words[2:]
			more := r.add(nil)
			r.g[more] = [][]string{{}, {`","`, x, more}}
			out = append(out, x, more)
			continue
		}
		out = append(out, x)
	}
	return out
}

func (r *ruleReader) one() string {
	x := r.now()
	r.words = r.words[1:]
	if x != "{" && x != "[" && x != "(" {
		return x
	}
	name := r.add(r.choices())
	switch x {
	case "[":
		r.g[name] = append(r.g[name], []string{})
	case "{":
		for i := range r.g[name] {
			r.g[name][i] = append(r.g[name][i], name)
		}
		r.g[name] = append(r.g[name], []string{})
	}
	r.words = r.words[1:]
	return name
}

func (r *ruleReader) add(l [][]string) string {
	r.fresh++
	name := r.of + "." + strconv.Itoa(r.fresh)
	r.g[name] = l
	return name
}

func kindAt(l []api.Token, i int, kinds ...int) bool {
	return i < len(l) && slices.Contains(kinds, l[i].Kind)
}

func wordAt(l []api.Token, i int, words ...string) bool {
	return kindAt(l, i, api.TkKey, api.TkSign) && slices.Contains(words, l[i].S)
}

// scan returns how far the tokens from i on are a symbol that is no rule, and whether they are one.
func scan(symbol string, l []api.Token, i int) (int, bool) {
	one := func(is bool) (int, bool) {
		if is {
			return i + 1, true
		}
		return i, false
	}
	switch symbol {
	case "name":
		return one(kindAt(l, i, api.TkName))
	case "number":
		return one(kindAt(l, i, api.TkNum))
	case "Expr":
		return scanExtent(l, i)
	case "Shape":
		return scanShape(l, i)
	case "Mark":
		return scanMark(l, i)
	}
	return one(wordAt(l, i, strings.Trim(symbol, `"`)))
}

func scanExtent(l []api.Token, i int) (int, bool) {
	from, open := i, 0
	for ; ; i++ {
		switch {
		case wordAt(l, i, "("):
			open++
		case open > 0 && wordAt(l, i, ")"):
			open--
		case kindAt(l, i, api.TkName, api.TkSym, api.TkNum), wordAt(l, i, "of"), open > 0 && wordAt(l, i, ","):
		default:
			return i, i > from
		}
	}
}

func scanShape(l []api.Token, i int) (int, bool) {
	if kindAt(l, i, api.TkNum) {
		return i + 1, true
	}
	if wordAt(l, i, "_") {
		i++
	}
	for is := false; ; is = true {
		if !kindAt(l, i, api.TkName, api.TkSym) {
			return i, is
		}
		i++
		if !wordAt(l, i, "_") {
			return i, true
		}
		i++
	}
}

func scanMark(l []api.Token, from int) (int, bool) {
	i, is := scanShape(l, from)
	if !is || !wordAt(l, i, "(") || !slices.ContainsFunc(l[from:i], func(t api.Token) bool { return t.S == "_" }) {
		return i, is
	}
	i++
	if !kindAt(l, i, api.TkNum) || l[i].N < 1 || l[i].N > 9 {
		return i, false
	}
	i++
	if kindAt(l, i, api.TkName) && (l[i].S == "left" || l[i].S == "right") {
		i++
	}
	if !wordAt(l, i, ")") {
		return i, false
	}
	return i + 1, true
}

// item: a row of a symbol, of which so much has been seen, from a token on.
type item struct {
	symbol          string
	row, seen, from int
}

// recognize returns up to which token a text begins as one of a symbol can, and whether it is one.
func (g grammar) recognize(symbol string, l []api.Token) (int, bool) {
	sets := make([]map[item]bool, len(l)+1)
	for i := range sets {
		sets[i] = map[item]bool{}
	}
	far := 0
	for row := range g[symbol] {
		sets[0][item{symbol, row, 0, 0}] = true
	}
	for i := range sets {
		if len(sets[i]) > 0 {
			far = max(far, i)
		}
		for grown := true; grown; {
			grown = false
			for x := range sets[i] {
				for at, l := range g.step(x, l, i, sets, &far) {
					for _, y := range l {
						if !sets[at][y] {
							sets[at][y] = true
							grown = grown || at == i
						}
					}
				}
			}
		}
	}
	for row := range g[symbol] {
		if sets[len(l)][item{symbol, row, len(g[symbol][row]), 0}] {
			return len(l), true
		}
	}
	return far, false
}

// step returns the items that an item leads to.
func (g grammar) step(x item, l []api.Token, i int, sets []map[item]bool, far *int) map[int][]item {
	row := g[x.symbol][x.row]
	out := map[int][]item{}
	if x.seen == len(row) {
		for y := range sets[x.from] {
			if r := g[y.symbol][y.row]; y.seen < len(r) && r[y.seen] == x.symbol {
				y.seen++
				out[i] = append(out[i], y)
			}
		}
		return out
	}
	next := row[x.seen]
	if g[next] == nil {
		end, is := scan(next, l, i)
		*far = max(*far, end)
		if is {
			x.seen++
			out[end] = []item{x}
		}
		return out
	}
	for k := range g[next] {
		out[i] = append(out[i], item{next, k, 0, i})
	}
	return out
}

// maker makes random texts by the grammar.
type maker struct {
	g      grammar
	r      *rand.Rand
	fuel   int
	height map[string]int
	words  []string
	mixed  bool // whether expressions have operations that are written around their arguments
}

func newMaker(seed int64) *maker {
	m := &maker{g: newGrammar(), r: rand.New(rand.NewSource(seed)), height: map[string]int{}}
	for changed := true; changed; {
		changed = false
		for symbol, rows := range m.g {
			for _, row := range rows {
				h, is := m.rowHeight(row)
				if old, had := m.height[symbol]; is && (!had || h < old) {
					m.height[symbol] = h
					changed = true
				}
			}
		}
	}
	return m
}

func (m *maker) rowHeight(row []string) (int, bool) {
	h := 0
	for _, x := range row {
		if m.g[x] == nil {
			continue
		}
		under, is := m.height[x]
		if !is {
			return 0, false
		}
		h = max(h, under)
	}
	return h + 1, true
}

// text returns a random text of a symbol.
func (m *maker) text(symbol string, fuel int) string {
	m.words = nil
	m.fuel = fuel
	m.make(symbol)
	return strings.Join(m.words, " ")
}

func (m *maker) make(symbol string) {
	rows := m.g[symbol]
	if rows == nil {
		m.words = append(m.words, m.word(symbol))
		return
	}
	row := rows[m.r.Intn(len(rows))]
	m.fuel--
	if m.fuel < 0 {
		row = slices.MinFunc(rows, func(a, b []string) int {
			x, _ := m.rowHeight(a)
			y, _ := m.rowHeight(b)
			return x - y
		})
	}
	for _, x := range row {
		m.make(x)
	}
}

func (m *maker) pick(l ...string) string { return l[m.r.Intn(len(l))] }

func (m *maker) word(symbol string) string {
	switch symbol {
	case "name":
		return m.pick("a", "b", "c", "P", "nat")
	case "number":
		return m.pick("0", "7", "12")
	case "Expr":
		return m.expression(2)
	case "Shape":
		return m.pick("a", "0", "_ + _", "if _ then _", "_ %", "# _")
	case "Mark":
		return m.pick("a", "0", "f", "+", "_ + _ ( 5 left )", "_ * _ ( 6 left )", "_ ^ _ ( 7 right )", "_ < _ ( 3 )", "- _ ( 6 )", "_ % ( 8 )", "if _ then _ else _ ( 1 )", "~ _ ~~")
	}
	return strings.Trim(symbol, `"`)
}

// expression returns a random expression, which can be wrong, by the operations of the table.
func (m *maker) expression(deep int) string {
	if deep == 0 {
		return m.pick("a", "x", "0", "12", "nat")
	}
	x := func() string { return m.expression(m.r.Intn(deep)) }
	if !m.mixed {
		return m.pick("( "+x()+" )", "f ( "+x()+" , "+x()+" )", "( "+x()+" ) of nat", "b")
	}
	return m.pick("( "+x()+" )", "f ( "+x()+" , "+x()+" )", x()+" of nat", x()+" + "+x(), x()+" * "+x(), x()+" ^ "+x(), x()+" < "+x(), "- "+x(), x()+" %", "if "+x()+" then "+x()+" else "+x(), "+")
}

// tokensOf returns the tokens of a text that is not refused.
func tokensOf(text string) []api.Token {
	l, _, err := lex.Tokens(text)
	if err != api.OK {
		panic(text)
	}
	return l
}

// changed returns words of which some are left out, put in, or others.
func (m *maker) changed(words []string) []string {
	all := append(append(lex.Words(), lex.Signs()...), "a", "b", "nat", "0", "7", "10", "+", "left", "right")
	for range m.r.Intn(3) {
		i := m.r.Intn(len(words) + 1)
		j := min(i+m.r.Intn(2), len(words))
		var in []string
		if i == j || m.r.Intn(2) == 0 {
			in = []string{m.pick(all...)}
		}
		words = slices.Concat(words[:i], in, words[j:])
	}
	return words
}

// P2.1, P2.6: the token that is too much is the first one with which no text begins, by the grammar.
func TestTooMuchAgainstGrammar(t *testing.T) {
	m := newMaker(1)
	for k := range 6000 {
		symbol := []string{"Beh", "Spec", "Type"}[k%3]
		text := m.text(symbol, 5+m.r.Intn(30))
		if symbol == "Type" {
			symbol = "Spec"
			text = "specification x : noexit " + text + " behaviour stop endspec"
		}
		text = strings.Join(m.changed(strings.Fields(text)), " ")
		l := tokensOf(text)
		if len(l) > 80 {
			continue
		}
		_, at, err := parse.Behaviour(text, nil)
		if symbol == "Spec" {
			_, at, err = parse.Parse(text)
		}
		far, is := m.g.recognize(symbol, l)
		want := len(text)
		if far < len(l) {
			want = l[far].At
		}
		if is && err == api.ErrSyntax || !is && (err != api.ErrSyntax || at != want) {
			t.Fatalf("%q: %d %d instead of %v %d", text, at, err, is, want)
		}
	}
}
