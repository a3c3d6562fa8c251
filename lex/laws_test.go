package lex_test

import (
	"math/rand"
	"regexp"
	"slices"
	"strconv"
	"strings"
	"testing"

	"madrigal/api"
	"madrigal/lex"
)

// pieces: what random texts are made of; the hard cases are in what stands side by side.
var pieces = []string{"a", "B9", "x'", "exit", "i", "of", "0", "7", "12", "007", "2147483647", "(", ")", "[", "]", "|", "||", "{", "}", ",", ";", ":", "?", "!", "_",
	"=", "-", ">", ".", "*", "+", "<", "[]", "[>", "|[", "]|", "|||", ":=", "=>", "->", ">>", "..", " ", "\n", "\t", "\r", "(*", "*)", "(* b *)", "(**)", "'", "\"", "\xff"}

func randomText(r *rand.Rand, n int) string {
	var b strings.Builder
	for range n {
		b.WriteString(pieces[r.Intn(len(pieces))])
	}
	return b.String()
}

// randomTokens returns right tokens: those of random texts that are not refused.
func randomTokens(r *rand.Rand, n int) []api.Token {
	var out []api.Token
	for len(out) < n {
		l, _, err := lex.Tokens(randomText(r, 3))
		if err == api.OK {
			out = append(out, l...)
		}
	}
	return out
}

func bare(l []api.Token) []api.Token {
	out := slices.Clone(l)
	for i := range out {
		out[i].At, out[i].End = 0, 0
	}
	return out
}

func spelt(t api.Token) string {
	if t.Kind == api.TkNum {
		return strconv.Itoa(t.N)
	}
	return t.S
}

var tokenForms = []struct {
	kind int
	form *regexp.Regexp
}{
	{0, regexp.MustCompile(`^[ \t\n\r]`)},
	{api.TkName, regexp.MustCompile(`^[a-zA-Z][a-zA-Z0-9']*`)},
	{api.TkNum, regexp.MustCompile(`^[0-9]+`)},
	{api.TkSign, regexp.MustCompile(`^(\|\|\||:=|\[\]|\[>|\|\[|\]\||\|\||[][(){},;:?!_])`)},
	{api.TkSym, regexp.MustCompile(`^[-#$%&*+./<=>@\\^~]+`)},
}

// plainComment returns how long the comment is with which a text begins, -1 if it has no end.
func plainComment(text string) int {
	depth := 0
	for i := 0; i+1 < len(text); i++ {
		switch text[i : i+2] {
		case "(*":
			depth++
			i++
		case "*)":
			depth--
			i++
		}
		if depth == 0 {
			return i + 1
		}
	}
	return -1
}

// plainTokens cuts a text in another, slower way, to hold Tokens against it; -1 is no error.
func plainTokens(text string) ([]api.Token, int) {
	var out []api.Token
next:
	for at := 0; at < len(text); {
		rest := text[at:]
		if strings.HasPrefix(rest, "(*") {
			n := plainComment(rest)
			if n < 0 {
				return nil, at
			}
			at += n
			continue
		}
		for _, f := range tokenForms {
			s := f.form.FindString(rest)
			if s == "" {
				continue
			}
			if f.kind != 0 {
				t, ok := plainToken(f.kind, s, rest[len(s):])
				if !ok {
					return nil, at
				}
				t.At, t.End = at, at+len(s)
				out = append(out, t)
			}
			at += len(s)
			continue next
		}
		return nil, at
	}
	return out, -1
}

func plainToken(kind int, s, behind string) (api.Token, bool) {
	if kind == api.TkNum {
		n, err := strconv.ParseInt(s, 10, 32)
		return api.Token{Kind: kind, N: int(n)}, err == nil && !regexp.MustCompile(`^[a-zA-Z']`).MatchString(behind)
	}
	if slices.Contains(lex.Words(), s) {
		kind = api.TkKey
	}
	if slices.Contains(lex.Signs(), s) {
		kind = api.TkSign
	}
	return api.Token{Kind: kind, S: s}, len(s) <= 32
}

// everyText calls f with each text of up to n of these bytes.
func everyText(bytes string, n int, f func(string)) {
	f("")
	if n == 0 {
		return
	}
	for _, b := range []byte(bytes) {
		everyText(bytes, n-1, func(s string) { f(string([]byte{b}) + s) })
	}
}

func holdAgainstPlain(t *testing.T, text string) {
	t.Helper()
	want, wrong := plainTokens(text)
	l, at, err := lex.Tokens(text)
	if wrong >= 0 && (l != nil || at != wrong || err != api.ErrLex) || wrong < 0 && (!slices.Equal(l, want) || at != 0 || err != api.OK) {
		t.Fatalf("Tokens(%q): %v %d %d instead of %v %d", text, l, at, err, want, wrong)
	}
	kind := 0
	if wrong < 0 && len(want) == 1 && want[0].At == 0 && want[0].End == len(text) {
		kind = want[0].Kind
	}
	if k := lex.Kind(text); k != kind {
		t.Fatalf("Kind(%q): %d instead of %d", text, k, kind)
	}
}

// P1.1
func TestTokensAgainstPlain(t *testing.T) {
	everyText("(*)[]|>=:.a1' ", 3, func(s string) { holdAgainstPlain(t, s) })
	everyText("(*) ", 7, func(s string) { holdAgainstPlain(t, s) })
	everyText("[]|>", 6, func(s string) { holdAgainstPlain(t, s) })
	r := rand.New(rand.NewSource(1))
	for range 20000 {
		holdAgainstPlain(t, randomText(r, r.Intn(12)))
	}
}

// P1.4: Join is cut into the tokens.
func TestThereAndBack(t *testing.T) {
	r := rand.New(rand.NewSource(2))
	for range 2000 {
		l := randomTokens(r, r.Intn(20))
		s, err := lex.Join(l)
		if err != api.OK {
			t.Fatalf("Join(%v): %d", l, err)
		}
		if m := tokensOf(t, s); !slices.Equal(bare(m), bare(l)) {
			t.Fatalf("Join(%v): %q", l, s)
		}
	}
}

// P1.4: no text is shorter. What stands between tokens is a blank or none here: without one of the blanks of Join, others are cut.
func TestShortest(t *testing.T) {
	r := rand.New(rand.NewSource(3))
	for range 2000 {
		l := randomTokens(r, 3)[:3]
		s, err := lex.Join(l)
		if err != api.OK {
			t.Fatalf("Join(%v): %d", l, err)
		}
		for blanks := range 4 {
			x := spelt(l[0]) + strings.Repeat(" ", blanks&1) + spelt(l[1]) + strings.Repeat(" ", blanks>>1) + spelt(l[2])
			if m, _, err := lex.Tokens(x); len(x) < len(s) && err == api.OK && slices.Equal(bare(m), bare(l)) {
				t.Fatalf("Join(%v): %q is longer than %q", l, s, x)
			}
		}
	}
}

// P1.4: Apart says of each two tokens what their text shows.
func TestApartOfAll(t *testing.T) {
	var l []api.Token
	for _, s := range append(pieces, lex.Words()...) {
		if k := lex.Kind(s); k != 0 {
			l = append(l, tokensOf(t, s)...)
		}
	}
	for _, a := range l {
		for _, b := range l {
			m, wrong := plainTokens(spelt(a) + spelt(b))
			want := wrong < 0 && slices.Equal(bare(m), bare([]api.Token{a, b}))
			if is, err := lex.Apart(a, b); is != want || err != api.OK {
				t.Errorf("Apart(%v, %v): %v %d", a, b, is, err)
			}
		}
	}
}

// P1.5
func TestBlanksAndComments(t *testing.T) {
	r := rand.New(rand.NewSource(4))
	between := []string{" ", "\t", "\n", "\r", "(**)", "(* a (*\"*) | *)", " (*(*)*)*)\n"}
	for range 1000 {
		l := randomTokens(r, r.Intn(8))
		var b strings.Builder
		for i := range len(l) + 1 {
			for range 1 + r.Intn(3) {
				b.WriteString(between[r.Intn(len(between))])
			}
			if i < len(l) {
				b.WriteString(spelt(l[i]))
			}
		}
		if m := tokensOf(t, b.String()); !slices.Equal(bare(m), bare(l)) {
			t.Fatalf("Tokens(%q): %v", b.String(), m)
		}
	}
}

// rightTexts calls f with random texts that are not refused, and their tokens.
func rightTexts(seed int64, n int, f func(r *rand.Rand, text string, l []api.Token)) {
	r := rand.New(rand.NewSource(seed))
	for n > 0 {
		text := randomText(r, r.Intn(10))
		if l, _, err := lex.Tokens(text); err == api.OK {
			f(r, text, l)
			n--
		}
	}
}

// P1.6
func TestPlaces(t *testing.T) {
	rightTexts(5, 3000, func(_ *rand.Rand, text string, l []api.Token) {
		end := 0
		for _, x := range l {
			if x.At < end || x.End <= x.At || x.End > len(text) {
				t.Fatalf("Tokens(%q): %v", text, l)
			}
			if between, wrong := plainTokens(text[end:x.At]); wrong >= 0 || len(between) > 0 {
				t.Fatalf("Tokens(%q): %q is no blanks and comments", text, text[end:x.At])
			}
			alone := tokensOf(t, text[x.At:x.End])
			if len(alone) != 1 || alone[0].At != 0 || alone[0].End != x.End-x.At || !slices.Equal(bare(alone), bare([]api.Token{x})) {
				t.Fatalf("Tokens(%q): %v", text[x.At:x.End], alone)
			}
			end = x.End
		}
		if between, wrong := plainTokens(text[end:]); wrong >= 0 || len(between) > 0 {
			t.Fatalf("Tokens(%q): %q is no blanks and comments", text, text[end:])
		}
	})
}

// P1.7
func TestAsLongAsItCanBe(t *testing.T) {
	rightTexts(6, 3000, func(_ *rand.Rand, text string, l []api.Token) {
		for _, x := range l {
			if x.End < len(text) && lex.Kind(text[x.At:x.End+1]) == x.Kind {
				t.Fatalf("Tokens(%q): %v could be longer", text, x)
			}
		}
	})
}

// P1.8
func TestFirstError(t *testing.T) {
	r := rand.New(rand.NewSource(7))
	for range 5000 {
		text := randomText(r, r.Intn(12))
		_, at, err := lex.Tokens(text)
		if err != api.ErrLex {
			continue
		}
		if _, _, err := lex.Tokens(text[:at]); err != api.OK {
			t.Fatalf("Tokens(%q): %d, but at %d", text[:at], err, at)
		}
	}
	// The bytes that are wrong, up to the one that decides it.
	for _, wrong := range []string{"\"", "'", "`", "\xff", "|a", "| ", "|]", "||||a"[3:], strings.Repeat("a", 33), strings.Repeat("+", 33), "2147483648", "7a", "0'"} {
		for _, ahead := range []string{"", "a ", "(**)", "b;\n"} {
			for range 20 {
				behind := randomText(r, 5)
				if l, at, err := lex.Tokens(ahead + wrong + behind); l != nil || at != len(ahead) || err != api.ErrLex {
					t.Fatalf("Tokens(%q): %v %d %d", ahead+wrong+behind, l, at, err)
				}
			}
		}
	}
	// A comment without an end stays one without an end that comes.
	for _, behind := range []string{"", "a", "|", "(* *)", "(*", ")", "* )"} {
		if l, at, err := lex.Tokens("b (*" + behind); l != nil || at != 2 || err != api.ErrLex {
			t.Fatalf("Tokens(%q): %v %d %d", "b (*"+behind, l, at, err)
		}
	}
}

// P1.9
func TestOneBehindTheOther(t *testing.T) {
	last := ""
	var lastTokens []api.Token
	rightTexts(8, 3000, func(_ *rand.Rand, text string, l []api.Token) {
		want := slices.Clone(lastTokens)
		for _, x := range l {
			x.At += len(last) + 1
			x.End += len(last) + 1
			want = append(want, x)
		}
		if m := tokensOf(t, last+" "+text); !slices.Equal(m, want) {
			t.Fatalf("Tokens(%q): %v", last+" "+text, m)
		}
		last, lastTokens = text, l
	})
}

// randomEdit returns an edit of a part of a text of this size.
func randomEdit(r *rand.Rand, size int) api.Edit {
	at := r.Intn(size + 1)
	return api.Edit{At: at, Cut: r.Intn(min(size-at, 4) + 1), S: randomText(r, r.Intn(3))}
}

// P1.3, P1.10: Change is Tokens of the edited text, and can be undone.
func TestEdited(t *testing.T) {
	rightTexts(9, 10000, func(r *rand.Rand, text string, l []api.Token) {
		e := randomEdit(r, len(text))
		want := text[:e.At] + e.S + text[e.At+e.Cut:]
		wantTokens, wantAt, wantErr := lex.Tokens(want)
		s, m, at, err := lex.Change(text, l, e)
		if s != want || !slices.Equal(m, wantTokens) || at != wantAt || err != wantErr {
			t.Fatalf("Change(%q, %v): %q %v %d %d", text, e, s, m, at, err)
		}
		if err != api.OK {
			return
		}
		undo := api.Edit{At: e.At, Cut: len(e.S), S: text[e.At : e.At+e.Cut]}
		if back, n, at, err := lex.Change(s, m, undo); back != text || !slices.Equal(n, l) || at != 0 || err != api.OK {
			t.Fatalf("Change(%q, %v): %q %v %d %d", s, undo, back, n, at, err)
		}
	})
}

// P1.10: edits at different places, in either order.
func TestEitherOrder(t *testing.T) {
	rightTexts(10, 5000, func(r *rand.Rand, text string, l []api.Token) {
		if len(text) < 2 {
			return
		}
		half := 1 + r.Intn(len(text)-1)
		first, second := randomEdit(r, half-1), randomEdit(r, len(text)-half)
		second.At += half
		moved := second
		moved.At += len(first.S) - first.Cut
		a, m, _, err := lex.Change(text, l, first)
		if err != api.OK {
			return
		}
		b, n, _, err := lex.Change(text, l, second)
		if err != api.OK {
			return
		}
		a, m, atA, errA := lex.Change(a, m, moved)
		b, n, atB, errB := lex.Change(b, n, first)
		if a != b || !slices.Equal(m, n) || atA != atB || errA != errB {
			t.Fatalf("%q, by %v and %v: %q %v %d %d, %q %v %d %d", text, first, second, a, m, atA, errA, b, n, atB, errB)
		}
	})
}

// P1.11
func TestStripped(t *testing.T) {
	rightTexts(11, 5000, func(_ *rand.Rand, text string, l []api.Token) {
		s, err := lex.Strip(text)
		if err != api.OK || len(s) != len(text) || strings.Contains(s, "(*") || strings.Count(s, "\n") != strings.Count(text, "\n") {
			t.Fatalf("Strip(%q): %q %d", text, s, err)
		}
		if m := tokensOf(t, s); !slices.Equal(m, l) {
			t.Fatalf("Tokens(%q): %v", s, m)
		}
		if again, err := lex.Strip(s); again != s || err != api.OK {
			t.Fatalf("Strip(%q): %q %d", s, again, err)
		}
	})
}

// P1.12
func TestEachWordAndSign(t *testing.T) {
	for _, x := range lex.Words() {
		if l := tokensOf(t, x); len(l) != 1 || l[0] != (api.Token{Kind: api.TkKey, S: x, End: len(x)}) {
			t.Errorf("Tokens(%q): %v", x, l)
		}
	}
	for _, x := range lex.Signs() {
		if l := tokensOf(t, x); len(l) != 1 || l[0] != (api.Token{Kind: api.TkSign, S: x, End: len(x)}) {
			t.Errorf("Tokens(%q): %v", x, l)
		}
	}
	for _, x := range append(lex.Words(), lex.Signs()...) {
		for _, kind := range []int{api.TkName, api.TkSym} {
			if s, err := lex.Join([]api.Token{{Kind: kind, S: x}}); s != "" || err != api.ErrArg {
				t.Errorf("Join of %q as a token of the kind %d: %q %d", x, kind, s, err)
			}
		}
	}
	rightTexts(12, 3000, func(_ *rand.Rand, text string, l []api.Token) {
		for _, x := range l {
			if x.Kind == api.TkName && slices.Contains(lex.Words(), x.S) || x.Kind == api.TkSym && slices.Contains(lex.Signs(), x.S) {
				t.Fatalf("Tokens(%q): %v", text, x)
			}
		}
	})
}
