package lex_test

import (
	"fmt"
	"slices"
	"strings"
	"testing"

	"madrigal/api"
	"madrigal/lex"
)

// shown writes tokens as the tables below do: kind, spelling, and first byte of each.
func shown(l []api.Token) string {
	kinds := map[int]string{api.TkName: "name", api.TkKey: "word", api.TkNum: "num", api.TkSym: "sym", api.TkSign: "sign"}
	var out []string
	for _, t := range l {
		s := t.S
		if t.Kind == api.TkNum {
			s += fmt.Sprint(t.N)
		} else if t.N != 0 || t.End != t.At+len(s) {
			s += " (wrong N or End)"
		}
		out = append(out, fmt.Sprintf("%s %s %d", kinds[t.Kind], s, t.At))
	}
	return strings.Join(out, ", ")
}

func tokensOf(t *testing.T, text string) []api.Token {
	t.Helper()
	l, at, err := lex.Tokens(text)
	if at != 0 || err != api.OK {
		t.Fatalf("Tokens(%q): %d %d", text, at, err)
	}
	return l
}

// P1.1
func TestTokens(t *testing.T) {
	for _, x := range []struct{ text, want string }{
		{"", ""},
		{" \t\r\n", ""},
		{"(**)(***)(*(**)*)(* *(* ) *)\n*)", ""},
		{"P[a]>>b;i", "name P 0, sign [ 1, name a 2, sign ] 3, sign >> 4, name b 6, sign ; 7, word i 8"},
		{"a|[b]|", "name a 0, sign |[ 1, name b 3, sign ]| 4"},
		{"x' := 12..5 (* (* *) *) [>", "name x' 0, sign := 3, num 12 6, sign .. 8, num 5 10, sign [> 24"},
		{"_+_*)", "sign _ 0, sym + 1, sign _ 2, sym * 3, sign ) 4"},
		{"exit exits Exit ex'it", "word exit 0, name exits 5, name Exit 11, name ex'it 16"},
		{"a1b'2 007 0", "name a1b'2 0, num 7 6, num 0 10"},
		{"|||||[]||]]", "sign ||| 0, sign || 3, sign [] 5, sign || 7, sign ] 9, sign ] 10"},
		{"|||[", "sign ||| 0, sign [ 3"},
		{"]||[", "sign ]| 0, sign |[ 2"},
		{"[>>>>=[>", "sign [> 0, sym >>>= 2, sign [> 6"},
		{":==>:=:", "sign := 0, sign => 2, sign := 4, sign : 6"},
		{"=->-->->>", "sym =->-->->> 0"},
		{"= -> => >> .. .", "sign = 0, sign -> 2, sign => 5, sign >> 8, sign .. 11, sym . 14"},
		{"12..13", "num 12 0, sign .. 2, num 13 4"},
		{"1=>2", "num 1 0, sign => 1, num 2 3"},
		{"a!b?c:d,e;f{1}", "name a 0, sign ! 1, name b 2, sign ? 3, name c 4, sign : 5, name d 6, sign , 7, name e 8, sign ; 9, name f 10, sign { 11, num 1 12, sign } 13"},
		{"#$%&*+-./<=>@\\^~", "sym #$%&*+-./<=>@\\^~ 0"},
		{"+(*+*)*)", "sym + 0, sym * 6, sign ) 7"},
		{"a(*'\xff|\"*)b", "name a 0, name b 9"},
	} {
		l, at, err := lex.Tokens(x.text)
		if shown(l) != x.want || at != 0 || err != api.OK {
			t.Errorf("Tokens(%q): %s; %d %d", x.text, shown(l), at, err)
		}
	}
}

// P1.1: what begins no token, or is too long or too large.
func TestTokensRefused(t *testing.T) {
	for _, x := range []struct {
		text string
		at   int
	}{
		{"a|[b]||c", 6}, {"|", 0}, {"||||", 3}, {"]|||||", 5},
		{"(* (* *)", 0}, {"(*)", 0}, {"(*", 0}, {"a (**) (*(**)*", 7}, {"(**", 0},
		{"a 12b", 2}, {"12'", 0}, {"1 1a", 2}, {"0x", 0},
		{"'a", 0}, {"\"", 0}, {"a\x00", 1}, {"a \v", 2}, {"a\f", 1}, {"é", 0}, {"aé", 1}, {"`", 0},
		{"12 | \"", 3},
	} {
		if l, at, err := lex.Tokens(x.text); l != nil || at != x.at || err != api.ErrLex {
			t.Errorf("Tokens(%q): %v %d %d", x.text, l, at, err)
		}
	}
	for b := range 256 { // each byte alone, and behind a name
		is := strings.IndexByte(" \t\n\r()[]{},;:?!_#$%&*+-./<=>@\\^~", byte(b)) >= 0 || b >= '0' && b <= '9' || b >= 'a' && b <= 'z' || b >= 'A' && b <= 'Z'
		if _, at, err := lex.Tokens(string([]byte{byte(b)})); at != 0 || (err == api.OK) != is {
			t.Errorf("Tokens of the byte %d: %d %d", b, at, err)
		}
		if _, _, err := lex.Tokens(string([]byte{'a', byte(b)})); (err == api.OK) != (is || b == '\'') {
			t.Errorf("Tokens of a and the byte %d: %d", b, err)
		}
	}
}

// P1.1: MaxName and MaxNum.
func TestLimitsOfOneToken(t *testing.T) {
	for _, part := range []string{"a", "+"} {
		long := strings.Repeat(part, api.MaxName)
		if l := tokensOf(t, " "+long); len(l) != 1 || l[0].S != long {
			t.Errorf("Tokens(%q): %v", long, l)
		}
		if l, at, err := lex.Tokens(" " + long + part); l != nil || at != 1 || err != api.ErrLex {
			t.Errorf("Tokens(%q): %v %d %d", long+part, l, at, err)
		}
	}
	if l := tokensOf(t, "2147483647 0002147483647"); len(l) != 2 || l[0].N != api.MaxNum || l[1].N != api.MaxNum || l[0].S != "" {
		t.Errorf("Tokens of MaxNum: %v", l)
	}
	for _, s := range []string{"2147483648", "18446744073709551617", strings.Repeat("9", 1000)} {
		if l, at, err := lex.Tokens("a " + s); l != nil || at != 2 || err != api.ErrLex {
			t.Errorf("Tokens(%q): %v %d %d", s, l, at, err)
		}
	}
	if l := tokensOf(t, strings.Repeat("0", api.MaxText-1)+"9"); len(l) != 1 || l[0].N != 9 {
		t.Errorf("Tokens of a number with zeros ahead: %v", l)
	}
}

// P1.1: MaxText and MaxTokens, and which error is the first one.
func TestLimitsOfTexts(t *testing.T) {
	full := strings.Repeat(" ", api.MaxText)
	for _, x := range []struct {
		text    string
		at      int
		err     api.Errno
		howMany int
	}{
		{full, 0, api.OK, 0},
		{full + " ", 0, api.ErrLimit, 0},
		{"\"" + full, 0, api.ErrLimit, 0},
		{strings.Repeat("; ", api.MaxTokens), 0, api.OK, api.MaxTokens},
		{strings.Repeat(";", api.MaxTokens+1), 0, api.ErrLimit, 0},
		{strings.Repeat(";", api.MaxTokens+1) + "|", api.MaxTokens + 1, api.ErrLex, 0},
		{strings.Repeat("(*", api.MaxText/4) + strings.Repeat("*)", api.MaxText/4), 0, api.OK, 0},
		{strings.Repeat("(*", api.MaxText/2), 0, api.ErrLex, 0},
	} {
		l, at, err := lex.Tokens(x.text)
		if len(l) != x.howMany || at != x.at || err != x.err {
			t.Errorf("Tokens of %d bytes: %d tokens, %d %d", len(x.text), len(l), at, err)
		}
	}
}

// P1.1
func TestWordsAndSigns(t *testing.T) {
	words := "accept,any,behaviour,choice,endlib,endproc,endspec,endtype,eqns,exit,for,forall,formaleqns,formalopns,formalsorts,hide,i,in,is,let,library,noexit,of,ofsort,opnnames,opns,process,renamedby,actualizedby,sortnames,sorts,specification,stop,type,using,wait,where"
	if l := lex.Words(); strings.Join(l, ",") != words {
		t.Errorf("Words: %v", l)
	}
	signs := "( ) [ ] { } , ; : ? ! _ [] [> |[ ]| || ||| := = -> => >> .."
	if l := lex.Signs(); strings.Join(l, " ") != signs {
		t.Errorf("Signs: %v", l)
	}
	clear(lex.Words())
	clear(lex.Signs())
	if lex.Words()[0] != "accept" || lex.Signs()[0] != "(" || lex.Kind("accept") != api.TkKey {
		t.Error("a list that was returned is not new memory")
	}
}

// P1.1
func TestKind(t *testing.T) {
	for s, want := range map[string]int{
		"[]": api.TkSign, "=>": api.TkSign, "==>": api.TkSym, "exit": api.TkKey, "exits": api.TkName, "i": api.TkKey, "I": api.TkName,
		"12": api.TkNum, "007": api.TkNum, "2147483647": api.TkNum, "|||": api.TkSign, "|[": api.TkSign, ".": api.TkSym, "a'": api.TkName,
		"": 0, "a b": 0, " a": 0, "a ": 0, "a(**)": 0, "(**)a": 0, "(**)": 0, "(*": 0, " ": 0, "2147483648": 0, "12a": 0, "|": 0, "'": 0,
		"[][": 0, "a;": 0, "-1": 0, "a\"": 0, ";\"": 0,
		strings.Repeat("x", 32): api.TkName, strings.Repeat("x", 33): 0, strings.Repeat("<", 32): api.TkSym, strings.Repeat("<", 33): 0,
	} {
		if k := lex.Kind(s); k != want {
			t.Errorf("Kind(%q): %d", s, k)
		}
	}
}

// wrongTokens: tokens that are not right.
func wrongTokens() []api.Token {
	return []api.Token{
		{}, {S: "a"}, {Kind: 6, S: "a"}, {Kind: -1, S: "a"},
		{Kind: api.TkName}, {Kind: api.TkName, S: "exit"}, {Kind: api.TkName, S: "a", N: 1}, {Kind: api.TkName, S: " a"}, {Kind: api.TkName, S: "a "},
		{Kind: api.TkName, S: "a(**)"}, {Kind: api.TkName, S: "a b"}, {Kind: api.TkName, S: "+"}, {Kind: api.TkName, S: "7"}, {Kind: api.TkName, S: "\""},
		{Kind: api.TkName, S: strings.Repeat("a", 33)}, {Kind: api.TkName, S: "a" + strings.Repeat(" ", api.MaxText)},
		{Kind: api.TkKey}, {Kind: api.TkKey, S: "a"}, {Kind: api.TkKey, S: "exit", N: 1}, {Kind: api.TkKey, S: "Exit"},
		{Kind: api.TkNum, S: "7"}, {Kind: api.TkNum, S: "7", N: 7}, {Kind: api.TkNum, N: -1}, {Kind: api.TkNum, N: api.MaxNum + 1}, {Kind: api.TkNum, N: -1 << 63},
		{Kind: api.TkSym}, {Kind: api.TkSym, S: "->"}, {Kind: api.TkSym, S: "a"}, {Kind: api.TkSym, S: "+", N: 1}, {Kind: api.TkSym, S: strings.Repeat("+", 33)},
		{Kind: api.TkSign}, {Kind: api.TkSign, S: "+"}, {Kind: api.TkSign, S: "|"}, {Kind: api.TkSign, S: "[ ]"}, {Kind: api.TkSign, S: "[][]"}, {Kind: api.TkSign, S: "(*"}, {Kind: api.TkSign, S: "[", N: 1},
	}
}

// P1.2
func TestApart(t *testing.T) {
	for _, x := range []struct {
		a, b string
		want bool
	}{
		{"a", "b", false}, {"a", "1", false}, {"1", "a", false}, {"1", "2", false}, {"a", "exit", false}, {"a", "+", true}, {"1", "..", true}, {"+", "1", true},
		{"(", "*", false}, {"(", "**", false}, {"(", "+", true}, {"*", ")", true}, {"(", "(", true},
		{"+", "-", false}, {"=", ">", false}, {".", ".", false}, {"..", ".", false}, {">>", "]", true},
		{"[", "]", false}, {"[", ">", false}, {"[", ">>", false}, {"[>", ">", true}, {"[", "]|", false}, {"[]", "||", true},
		{"]", "|[", false}, {"]", "||", false}, {"]", "|||", false}, {"]|", "||", true}, {"]|", "|[", true},
		{"||", "||", false}, {"||", "|[", false}, {"|||", "||", true}, {"|||", "|[", true}, {"|[", "]", true}, {"|[", "]|", true},
		{":", "=", false}, {":", "==", false}, {":=", "=", true}, {":", ":=", true}, {"_", "_", true}, {"_", "a", true}, {"a", "_", true},
	} {
		a, b := tokensOf(t, x.a)[0], tokensOf(t, x.b)[0]
		if is, err := lex.Apart(a, b); is != x.want || err != api.OK {
			t.Errorf("Apart(%q, %q): %v %d", x.a, x.b, is, err)
		}
	}
	good := api.Token{Kind: api.TkSign, S: ";", At: -7, End: 99}
	if is, err := lex.Apart(good, good); !is || err != api.OK {
		t.Errorf("Apart with places that do not matter: %v %d", is, err)
	}
	for _, bad := range wrongTokens() {
		if is, err := lex.Apart(good, bad); is || err != api.ErrArg {
			t.Errorf("Apart(;, %v): %v %d", bad, is, err)
		}
		if is, err := lex.Apart(bad, good); is || err != api.ErrArg {
			t.Errorf("Apart(%v, ;): %v %d", bad, is, err)
		}
	}
}

// P1.2
func TestJoin(t *testing.T) {
	for _, x := range []struct{ text, want string }{
		{"", ""},
		{"a b [ ] ( * =", "a b[ ]( * ="},
		{" 007  (* seven *) [ > >> ] ", "7[ > >>]"},
		{"a 1 exit 2", "a 1 exit 2"},
		{"P [ a ] |[ b ] || c", "P[a] |[b] ||c"},
	} {
		if s, err := lex.Join(tokensOf(t, x.text)); s != x.want || err != api.OK {
			t.Errorf("Join of the tokens of %q: %q %d", x.text, s, err)
		}
	}
	good := api.Token{Kind: api.TkName, S: "a", At: 5, End: 3}
	for _, bad := range wrongTokens() {
		if s, err := lex.Join([]api.Token{good, bad}); s != "" || err != api.ErrArg {
			t.Errorf("Join(a, %v): %q %d", bad, s, err)
		}
	}
}

// P1.2: the limits of Join.
func TestJoinLimits(t *testing.T) {
	many := slices.Repeat([]api.Token{{Kind: api.TkSign, S: ";"}}, api.MaxTokens)
	if s, err := lex.Join(many); len(s) != api.MaxTokens || err != api.OK {
		t.Errorf("Join of MaxTokens: %d bytes, %d", len(s), err)
	}
	if s, err := lex.Join(append(many, many[0])); s != "" || err != api.ErrLimit {
		t.Errorf("Join of more than MaxTokens: %d bytes, %d", len(s), err)
	}
	if s, err := lex.Join(append(many, api.Token{}, many[0])); s != "" || err != api.ErrArg {
		t.Errorf("Join of more than MaxTokens, one of which is wrong: %d bytes, %d", len(s), err)
	}
	// 3125 names of 31 bytes, each but the last one with a blank behind it: 99999 bytes.
	long := slices.Repeat([]api.Token{{Kind: api.TkName, S: strings.Repeat("a", 31)}}, api.MaxText/32)
	if s, err := lex.Join(append(slices.Clone(long), many[0])); len(s) != api.MaxText || err != api.OK {
		t.Errorf("Join of MaxText: %d bytes, %d", len(s), err)
	}
	if s, err := lex.Join(append(slices.Clone(long), many[0], many[0])); s != "" || err != api.ErrLimit {
		t.Errorf("Join of more than MaxText: %d bytes, %d", len(s), err)
	}
}

// P1.2
func TestPlace(t *testing.T) {
	for _, x := range []struct {
		text          string
		at, line, col int
		err           api.Errno
	}{
		{"", 0, 1, 1, api.OK}, {"\nab", 2, 2, 2, api.OK}, {"\nab", 0, 1, 1, api.OK}, {"\nab", 1, 2, 1, api.OK}, {"\nab", 3, 2, 3, api.OK},
		{"a\r\n\n\tb", 2, 1, 3, api.OK}, {"a\r\n\n\tb", 3, 2, 1, api.OK}, {"a\r\n\n\tb", 4, 3, 1, api.OK}, {"a\r\n\n\tb", 5, 3, 2, api.OK},
		{"\"|\xc3\xa9", 4, 1, 5, api.OK},
		{"", 1, 0, 0, api.ErrArg}, {"a", -1, 0, 0, api.ErrArg}, {"a", 2, 0, 0, api.ErrArg}, {"a", -1 << 63, 0, 0, api.ErrArg}, {"a", 1<<63 - 1, 0, 0, api.ErrArg},
		{strings.Repeat("\n", api.MaxText+5), api.MaxText + 5, api.MaxText + 6, 1, api.OK},
	} {
		if line, col, err := lex.Place(x.text, x.at); line != x.line || col != x.col || err != x.err {
			t.Errorf("Place(%.10q, %d): %d %d %d", x.text, x.at, line, col, err)
		}
	}
}

// P1.2
func TestStrip(t *testing.T) {
	for _, x := range []struct {
		text, want string
		err        api.Errno
	}{
		{"", "", api.OK}, {"a(*b*)c", "a     c", api.OK}, {"a(*b\t\n\r*)c", "a    \n   c", api.OK},
		{"\t(*(*\n*)*)\r\n(**)", "\t    \n    \r\n    ", api.OK}, {"((**)*", "(    *", api.OK}, {"(*\xff\xfe|*)", "       ", api.OK},
		{"(*", "", api.ErrLex}, {"(**)|", "", api.ErrLex},
		{strings.Repeat(" ", api.MaxText+1), "", api.ErrLimit}, {strings.Repeat(";", api.MaxTokens+1), "", api.ErrLimit},
	} {
		if s, err := lex.Strip(x.text); s != x.want || err != x.err {
			t.Errorf("Strip(%.30q): %q %d", x.text, s, err)
		}
	}
}

// P1.3
func TestChange(t *testing.T) {
	for _, x := range []struct {
		text   string
		e      api.Edit
		edited string
		want   string
	}{
		{"a >> b", api.Edit{At: 3, Cut: 1, S: "= (* *)"}, "a >= (* *) b", "name a 0, sym >= 2, name b 11"},
		{"", api.Edit{}, "", ""},
		{"", api.Edit{S: "a"}, "a", "name a 0"},
		{"a", api.Edit{Cut: 1}, "", ""},
		{"a b", api.Edit{At: 1, Cut: 1}, "ab", "name ab 0"},
		{"a b", api.Edit{At: 3, S: "c"}, "a bc", "name a 0, name bc 2"},
		{"ab", api.Edit{At: 1, S: " "}, "a b", "name a 0, name b 2"},
		{"a (* b *) c", api.Edit{At: 2, Cut: 2}, "a  b *) c", "name a 0, name b 3, sym * 5, sign ) 6, name c 8"},
		{"a b *) c", api.Edit{At: 1, S: "(*"}, "a(* b *) c", "name a 0, name c 9"},
		{"a b *)", api.Edit{At: 1, S: "(*"}, "a(* b *)", "name a 0"},
		{"a (* b *) c *) d", api.Edit{At: 4, S: "(*"}, "a (*(* b *) c *) d", "name a 0, name d 17"},
		{"exi ; ; ;", api.Edit{At: 3, S: "t"}, "exit ; ; ;", "word exit 0, sign ; 5, sign ; 7, sign ; 9"},
		{"; ; exit", api.Edit{At: 3, S: "-"}, "; ;- exit", "sign ; 0, sign ; 2, sym - 3, word exit 5"},
		{"||;|||", api.Edit{At: 2, Cut: 1}, "|||||", "sign ||| 0, sign || 3"},
		{"a;b;c", api.Edit{At: 1, Cut: 3, S: "+"}, "a+c", "name a 0, sym + 1, name c 2"},
	} {
		l := tokensOf(t, x.text)
		kept := slices.Clone(l)
		s, m, at, err := lex.Change(x.text, l, x.e)
		if s != x.edited || shown(m) != x.want || at != 0 || err != api.OK {
			t.Errorf("Change(%q, %v): %q %s %d %d", x.text, x.e, s, shown(m), at, err)
		}
		clear(m)
		if !slices.Equal(l, kept) {
			t.Errorf("Change(%q, %v) shares memory with its argument", x.text, x.e)
		}
	}
}

// P1.3: the edited text is refused.
func TestChangeIntoWrong(t *testing.T) {
	for _, x := range []struct {
		text   string
		e      api.Edit
		edited string
		at     int
	}{
		{"a >> b", api.Edit{At: 6, S: "(*"}, "a >> b(*", 6},
		{"a (* b *) c", api.Edit{At: 7, Cut: 2}, "a (* b  c", 2},
		{"a 12 b", api.Edit{At: 4, Cut: 1}, "a 12b", 2},
		{"a || b", api.Edit{At: 3, Cut: 1}, "a | b", 2},
		{"a; b; c", api.Edit{At: 3, S: strings.Repeat("x", 32)}, "a; " + strings.Repeat("x", 32) + "b; c", 3},
		{"1", api.Edit{At: 1, S: "0000000000"}, "10000000000", 0},
	} {
		if s, m, at, err := lex.Change(x.text, tokensOf(t, x.text), x.e); s != x.edited || m != nil || at != x.at || err != api.ErrLex {
			t.Errorf("Change(%q, %v): %q %v %d %d", x.text, x.e, s, m, at, err)
		}
	}
}

// P1.3: the limits of the edited text, which is returned all the same.
func TestChangeLimits(t *testing.T) {
	full := strings.Repeat(" ", api.MaxText)
	if s, m, at, err := lex.Change(full, nil, api.Edit{S: "\""}); s != "\""+full || m != nil || at != 0 || err != api.ErrLimit {
		t.Errorf("Change beyond MaxText: %d bytes, %v %d %d", len(s), m, at, err)
	}
	if s, m, at, err := lex.Change(full, nil, api.Edit{Cut: 1, S: ";"}); len(s) != api.MaxText || len(m) != 1 || at != 0 || err != api.OK {
		t.Errorf("Change up to MaxText: %d bytes, %v %d %d", len(s), m, at, err)
	}
	many := strings.Repeat(";", api.MaxTokens)
	l := tokensOf(t, many)
	for _, at := range []int{0, 7, api.MaxTokens} {
		if s, m, wrong, err := lex.Change(many, l, api.Edit{At: at, S: ","}); len(s) != api.MaxTokens+1 || m != nil || wrong != 0 || err != api.ErrLimit {
			t.Errorf("Change beyond MaxTokens: %d bytes, %d tokens, %d %d", len(s), len(m), wrong, err)
		}
		if s, m, wrong, err := lex.Change(many, l, api.Edit{At: at, S: ",|,"}); len(s) != api.MaxTokens+3 || m != nil || wrong != at+1 || err != api.ErrLex {
			t.Errorf("Change beyond MaxTokens into what is wrong: %d bytes, %d tokens, %d %d", len(s), len(m), wrong, err)
		}
	}
}

// P1.3: what is not admitted.
func TestChangeRefused(t *testing.T) {
	text := "a >> b"
	l := tokensOf(t, text)
	moved, other := slices.Clone(l), slices.Clone(l)
	moved[1].At++
	other[2].S = "c"
	for _, x := range []struct {
		text string
		l    []api.Token
		e    api.Edit
	}{
		{text, l[1:], api.Edit{}}, {text, l[:2], api.Edit{}}, {text, nil, api.Edit{}}, {text, moved, api.Edit{}}, {text, other, api.Edit{}}, {text, append(slices.Clone(l), l[0]), api.Edit{}},
		{"", l, api.Edit{}}, {"(*", nil, api.Edit{Cut: 2}}, {"|", nil, api.Edit{Cut: 1}},
		{strings.Repeat(" ", api.MaxText+1), nil, api.Edit{Cut: 5}}, {strings.Repeat(";", api.MaxTokens+1), nil, api.Edit{Cut: 5}},
		{text, l, api.Edit{At: -1}}, {text, l, api.Edit{Cut: -1}}, {text, l, api.Edit{At: 3, Cut: -1}}, {text, l, api.Edit{At: 7}}, {text, l, api.Edit{At: 6, Cut: 1}}, {text, l, api.Edit{Cut: 7}},
		{text, l, api.Edit{At: 1<<63 - 1, Cut: 1<<63 - 1}}, {text, l, api.Edit{At: 2, Cut: 1<<63 - 1}}, {text, l, api.Edit{At: -1 << 63, Cut: 1<<63 - 1}}, {text, l, api.Edit{At: 2, Cut: -1 << 63}},
	} {
		if s, m, at, err := lex.Change(x.text, x.l, x.e); s != "" || m != nil || at != 0 || err != api.ErrArg {
			t.Errorf("Change(%.10q, %v, %v): %.10q %v %d %d", x.text, x.l, x.e, s, m, at, err)
		}
	}
}
