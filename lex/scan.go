package lex

import (
	"slices"
	"strconv"
	"strings"

	"madrigal/api"
)

// class is what a byte can begin.
type class int

const (
	blank class = iota
	letter
	digit
	symbol
	other
)

func classOf(b byte) class {
	switch {
	case strings.IndexByte(" \t\n\r", b) >= 0:
		return blank
	case 'a' <= b && b <= 'z' || 'A' <= b && b <= 'Z':
		return letter
	case '0' <= b && b <= '9':
		return digit
	case strings.IndexByte(`#$%&*+-./<=>@\^~`, b) >= 0:
		return symbol
	}
	return other
}

func isBlank(b byte) bool  { return classOf(b) == blank }
func isDigit(b byte) bool  { return classOf(b) == digit }
func isSymbol(b byte) bool { return classOf(b) == symbol }

func isInName(b byte) bool {
	c := classOf(b)
	return c == letter || c == digit || b == '\''
}

// wrong is thrown where a text cannot be cut: at the first byte of what is no token.
type wrong struct{ at int }

// span is a part of a text.
type span struct{ at, end int }

// scanner cuts texts. It can begin with another text again and again, which spares making its tables anew.
type scanner struct {
	words, signs map[string]bool
	states       map[class]func(*scanner)
	text         string
	from, at     int // where what is being cut begins, and how far it has been read
	tokens       []api.Token
	comments     []span
}

func newScanner() *scanner {
	return &scanner{
		words: setOf(Words()),
		signs: setOf(Signs()),
		states: map[class]func(*scanner){
			blank:  (*scanner).cutBlanks,
			letter: (*scanner).cutName,
			digit:  (*scanner).cutNumber,
			symbol: (*scanner).cutSymbols,
			other:  (*scanner).cutSign,
		},
	}
}

func setOf(l []string) map[string]bool {
	set := map[string]bool{}
	for _, x := range l {
		set[x] = true
	}
	return set
}

func (s *scanner) begin(text string) {
	s.text, s.from, s.at = text, 0, 0
	s.tokens, s.comments = nil, nil
}

// cut goes on until the text ends or enough says so, and returns the byte that is wrong, if there is one.
func (s *scanner) cut(enough func() bool) (at int, err api.Errno) {
	defer func() {
		if w, ok := recover().(wrong); ok {
			at, err = w.at, api.ErrLex
		}
	}()
	for s.at < len(s.text) && !enough() {
		s.from = s.at
		s.states[classOf(s.text[s.at])](s)
	}
	return 0, api.OK
}

func toTheEnd() bool { return false }

// all returns the tokens of a whole text.
func (s *scanner) all(text string) ([]api.Token, int, api.Errno) {
	if len(text) > api.MaxText {
		return nil, 0, api.ErrLimit
	}
	s.begin(text)
	at, err := s.cut(toTheEnd)
	return s.result(at, err)
}

// result returns the tokens that have been cut, unless something was wrong or they are too many.
func (s *scanner) result(at int, err api.Errno) ([]api.Token, int, api.Errno) {
	if err != api.OK {
		return nil, at, err
	}
	if len(s.tokens) > api.MaxTokens {
		return nil, 0, api.ErrLimit
	}
	return s.tokens, 0, api.OK
}

// pass reads bytes as long as they fit, and returns them.
func (s *scanner) pass(fits func(byte) bool) string {
	first := s.at
	for s.at < len(s.text) && fits(s.text[s.at]) {
		s.at++
	}
	return s.text[first:s.at]
}

func (s *scanner) throw() { panic(wrong{s.from}) }

// add adds the token that ends here.
func (s *scanner) add(t api.Token) {
	if len(t.S) > api.MaxName {
		s.throw()
	}
	t.At, t.End = s.from, s.at
	s.tokens = append(s.tokens, t)
}

func (s *scanner) cutBlanks() { s.pass(isBlank) }

func (s *scanner) cutName() {
	s.addAs(api.TkName, s.pass(isInName), s.words, api.TkKey)
}

func (s *scanner) cutNumber() {
	n := 0
	for _, d := range []byte(s.pass(isDigit)) {
		n = n*10 + int(d-'0')
		if n > api.MaxNum {
			s.throw()
		}
	}
	if s.at < len(s.text) && isInName(s.text[s.at]) {
		s.throw()
	}
	s.add(api.Token{Kind: api.TkNum, N: n})
}

func (s *scanner) cutSymbols() {
	s.addAs(api.TkSym, s.pass(isSymbol), s.signs, api.TkSign)
}

// addAs adds a token of a kind, or, if what has been read is listed, of another one.
func (s *scanner) addAs(kind int, read string, listed map[string]bool, kindOfListed int) {
	if listed[read] {
		kind = kindOfListed
	}
	s.add(api.Token{Kind: kind, S: read})
}

// cutSign cuts what begins with a byte that is no symbol: so does each sign that it finds.
func (s *scanner) cutSign() {
	rest := s.text[s.at:]
	if strings.HasPrefix(rest, "(*") {
		s.cutComment()
		return
	}
	for size := min(3, len(rest)); size > 0; size-- {
		if s.signs[rest[:size]] {
			s.at += size
			s.add(api.Token{Kind: api.TkSign, S: rest[:size]})
			return
		}
	}
	s.throw()
}

func (s *scanner) cutComment() {
	s.at += 2
	for open := 1; open > 0; {
		rest := s.text[s.at:]
		switch {
		case rest == "":
			s.throw()
		case strings.HasPrefix(rest, "(*"):
			open++
			s.at += 2
		case strings.HasPrefix(rest, "*)"):
			open--
			s.at += 2
		default:
			s.at++
		}
	}
	s.comments = append(s.comments, span{s.from, s.at})
}

// spelling returns how a token is written as short as it can be.
func spelling(t api.Token) string {
	if t.Kind == api.TkNum {
		return strconv.Itoa(t.N)
	}
	return t.S
}

// right reports whether the text of a token alone is cut into just this token.
func (s *scanner) right(t api.Token) bool {
	text := spelling(t)
	// No token as it is spelled is longer than a name: a long text need not be cut.
	return len(text) <= api.MaxName && s.isCutInto(text, t)
}

// apart reports whether the texts of two right tokens, one directly behind the other, are cut into the two.
func (s *scanner) apart(a, b api.Token) bool {
	return s.isCutInto(spelling(a)+spelling(b), a, b)
}

func (s *scanner) isCutInto(text string, want ...api.Token) bool {
	s.begin(text)
	_, err := s.cut(toTheEnd)
	return err == api.OK && slices.EqualFunc(s.tokens, want, isSameToken)
}

// isSameToken reports whether two tokens are the same, but for their places.
func isSameToken(a, b api.Token) bool {
	return a.Kind == b.Kind && a.N == b.N && a.S == b.S
}
