package show

import (
	"strings"

	"madrigal/api"
	"madrigal/lex"
)

// lines puts tokens into lines of a width.
type lines struct {
	text   strings.Builder
	width  int
	size   int  // bytes of the line that is written
	ends   bool // a line is begun ahead of the next token, whichever it is
	open   int  // specifications, processes and types that are begun and not ended
	inType bool
}

// inLines returns a text, whose tokens are joined, in lines of a width.
func inLines(text string, width int) (string, api.Errno) {
	tokens, _, err := lex.Tokens(text)
	if err != api.OK {
		return "", err
	}
	l := &lines{width: width}
	for i, t := range tokens {
		// Where tokens that are joined have a blank between, they need it.
		needsBlank := i > 0 && tokens[i-1].End < t.At
		l.put(t, text[t.At:t.End], needsBlank)
	}
	if l.text.Len() > api.MaxText {
		return "", api.ErrLimit
	}
	return l.text.String(), api.OK
}

// put writes a token behind the others.
func (l *lines) put(t api.Token, word string, needsBlank bool) {
	l.leave(t)
	size := len(word)
	if needsBlank {
		size++
	}
	switch {
	case l.ends || beginsLine(t) || l.size+size > l.width:
		l.begin()
	case needsBlank:
		l.write(" ")
	}
	l.write(word)
	l.ends = l.endsLine(t)
	l.enter(t)
}

func (l *lines) write(s string) {
	l.text.WriteString(s)
	l.size += len(s)
}

// begin begins a line.
func (l *lines) begin() {
	if l.text.Len() > 0 {
		l.text.WriteByte('\n')
	}
	l.size = 0
	l.write(strings.Repeat(" ", min(2*l.open, l.width/2)))
}

// enter and leave keep what is open around the next token.
func (l *lines) enter(t api.Token) {
	if t.Kind != api.TkKey {
		return
	}
	switch t.S {
	case "specification", "process":
		l.open++
	case "type":
		l.open++
		l.inType = true
	}
}

func (l *lines) leave(t api.Token) {
	if t.Kind != api.TkKey {
		return
	}
	switch t.S {
	case "endspec", "endproc":
		l.open--
	case "endtype":
		l.open--
		l.inType = false
	}
}

func beginsLine(t api.Token) bool {
	if t.Kind != api.TkKey {
		return false
	}
	switch t.S {
	case "behaviour", "where", "endspec", "process", "endproc", "type", "endtype", "library",
		"sorts", "opns", "eqns", "formalsorts", "formalopns", "formaleqns", "forall", "ofsort":
		return true
	}
	return false
}

// endsLine reports whether a line is begun behind a token. (Of a type equations alone have ";".)
func (l *lines) endsLine(t api.Token) bool {
	switch t.S {
	case "is", ":=":
		return true
	case ";":
		return l.inType
	}
	return false
}
