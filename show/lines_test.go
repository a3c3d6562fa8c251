package show_test

import (
	"strings"
	"testing"

	"madrigal/api"
	"madrigal/lex"
	"madrigal/parse"
	"madrigal/show"
)

// begins and ends are the words ahead of which, and behind which, a line is begun.
const begins = " behaviour where endspec process endproc type endtype library sorts opns eqns formalsorts formalopns formaleqns forall ofsort "

// gap returns the blank that two tokens need between them.
func gap(a, b string) string {
	if l, _, err := lex.Tokens(a + b); err == api.OK && len(l) == 2 && l[0].End == len(a) {
		return ""
	}
	return " "
}

// holdLines checks each line of a text in lines against the chapter.
func holdLines(t *testing.T, laid, text string, width int) {
	t.Helper()
	open, inType, last := 0, false, ""
	for i, line := range strings.Split(laid, "\n") {
		rest := strings.TrimLeft(line, " ")
		l := tokensOf(rest)
		if rest == "" || strings.HasSuffix(line, " ") || strings.ContainsAny(line, "\t\r") || len(l) > 1 && len(line) > width {
			t.Fatalf("the line %q of %q", line, laid)
		}
		indent := len(line) - len(rest)
		for k, x := range l {
			word := rest[x.At:x.End]
			if strings.HasPrefix(word, "end") && word != "endlib" {
				open--
				inType = inType && word != "endtype"
			}
			isForced := strings.Contains(begins, " "+word+" ") || last == "is" || last == ":=" || last == ";" && inType
			switch {
			case k == 0 && indent != min(2*open, width/2):
				t.Fatalf("the line %q of %q begins with %d blanks", line, laid, indent)
			case k == 0 && i > 0 && !isForced:
				ahead := strings.Split(laid, "\n")[i-1]
				if len(ahead)+len(gap(last, word))+len(word) <= width {
					t.Fatalf("the line %q of %q could be longer", ahead, laid)
				}
			case k > 0 && isForced:
				t.Fatalf("the line %q of %q goes on with %q", line, laid, word)
			case k > 0 && rest[l[k-1].End:x.At] != gap(last, word):
				t.Fatalf("the line %q of %q has other blanks than it needs", line, laid)
			}
			if word == "specification" || word == "process" || word == "type" {
				open++
				inType = word == "type"
			}
			last = word
		}
	}
}

// P3.2
func TestLay(t *testing.T) {
	text := "specification x [a, b] : exit (nat) library nat, bool endlib type t is nat formalsorts k formalopns c : -> k formaleqns ofsort k c = c; sorts s opns 0 : -> s _+_ (5 left) : s, s -> s eqns forall x : s ofsort s x + 0 = x; 0 + x = x; endtype " +
		"behaviour a !0 ?x : s; b; stop [] exit where type u is t renamedby sortnames v for s endtype process P [a] : noexit := a; stop where process Q : noexit := stop endproc endproc endspec"
	n, at, err := parse.Parse(text)
	if err != api.OK {
		t.Fatal(at, err)
	}
	for _, x := range []struct {
		width int
		want  []string
	}{
		{40, []string{
			"specification x[a,b]:exit(nat)", "  library nat,bool endlib", "  type t is", "    nat", "    formalsorts k", "    formalopns c:->k", "    formaleqns", "    ofsort k c=c;", "    sorts s", "    opns 0:->s_+_(5 left):s,s->s", "    eqns", "    forall x:s", "    ofsort s x+0=x;", "    0+x=x;", "  endtype",
			"  behaviour a!0?x:s;b;stop[]exit", "  where", "  type u is", "    t renamedby sortnames v for s", "  endtype", "  process P[a]:noexit:=", "    a;stop", "    where", "    process Q:noexit:=", "      stop", "    endproc", "  endproc", "endspec",
		}},
		{20, []string{
			"specification x[a,b]", "  :exit(nat)", "  library nat,bool", "  endlib", "  type t is", "    nat", "    formalsorts k", "    formalopns c:->k", "    formaleqns", "    ofsort k c=c;", "    sorts s", "    opns 0:->s_+_(5", "    left):s,s->s", "    eqns", "    forall x:s", "    ofsort s x+0=x;", "    0+x=x;", "  endtype",
			"  behaviour a!0?x:s;", "  b;stop[]exit", "  where", "  type u is", "    t renamedby", "    sortnames v for", "    s", "  endtype", "  process P[a]:", "    noexit:=", "    a;stop", "    where", "    process Q:noexit", "      :=", "      stop", "    endproc", "  endproc", "endspec",
		}},
	} {
		if s, err := show.Lay(n, x.width); s != strings.Join(x.want, "\n") || err != api.OK {
			t.Errorf("%d:\n%s\ninstead of\n%s", err, s, strings.Join(x.want, "\n"))
		}
	}
}

// inProcesses is a text in which processes stand within each other so deep.
func inProcesses(deep int, b string) string {
	return "specification x:noexit behaviour " + b + strings.Repeat(" where process P:noexit:=stop", deep) + strings.Repeat(" endproc", deep) + " endspec"
}

// P3.2: lines that begin with as many blanks as they can, and words that are longer than a line.
func TestDeepLines(t *testing.T) {
	long := strings.Repeat("a", api.MaxName)
	for _, width := range []int{20, 21, 22, 23, 50, 999, 1000} {
		n, at, err := parse.Parse(strings.ReplaceAll(inProcesses(20, "P["+long+","+long+"]"), "P:", long+":"))
		if err != api.OK {
			t.Fatal(at, err)
		}
		text, err := show.Text(n)
		if err != api.OK {
			t.Fatal(err)
		}
		s, err := show.Lay(n, width)
		if err != api.OK {
			t.Fatal(err)
		}
		holdLines(t, s, text, width)
		most := 0
		for _, line := range strings.Split(s, "\n") {
			most = max(most, len(line)-len(strings.TrimLeft(line, " ")))
		}
		if most != min(42, width/2) {
			t.Errorf("%d blanks in lines of the width %d", most, width)
		}
	}
}

// P3.2: widths that are none, which are asked for ahead of the tree; trees that are none; and texts that are too long in lines alone.
func TestLayRefused(t *testing.T) {
	n, _, _ := parse.Parse("specification x:noexit behaviour stop endspec")
	for _, x := range []struct {
		n     api.Node
		width int
		err   api.Errno
	}{
		{n, 19, api.ErrWidth}, {n, 1001, api.ErrWidth}, {n, 0, api.ErrWidth}, {n, -40, api.ErrWidth}, {n, 20, api.OK}, {n, 1000, api.OK}, {stop(), 19, api.ErrWidth}, {stop(), 20, api.ErrTree}, {api.Node{}, 1000, api.ErrTree},
	} {
		if s, err := show.Lay(x.n, x.width); err != x.err || (s == "") == (err == api.OK) {
			t.Errorf("Lay(%v, %d): %q %d", x.n, x.width, s, err)
		}
	}
	// The blanks alone are more than 100000 bytes: four lines of each process begin with up to 380 of them.
	n, at, err := parse.Parse(inProcesses(190, "stop"))
	if err != api.OK {
		t.Fatal(at, err)
	}
	for _, width := range []int{20, 1000} {
		s, err := show.Lay(n, width)
		if width == 20 && (err != api.OK || s == "") || width == 1000 && (err != api.ErrLimit || s != "") {
			t.Errorf("Lay in lines of the width %d: %d bytes, %d", width, len(s), err)
		}
	}
	if s, err := show.Text(n); s == "" || err != api.OK {
		t.Errorf("Text: %q %d", s, err)
	}
}
