// Package lex reads the tokens of texts. See shared/doc/01-lex.md.
package lex

import (
	"slices"
	"strings"

	"madrigal/api"
)

const wordList = "accept any behaviour choice endlib endproc endspec endtype eqns exit for forall formaleqns formalopns formalsorts " +
	"hide i in is let library noexit of ofsort opnnames opns process renamedby actualizedby sortnames sorts specification stop type using wait where"

const signList = "( ) [ ] { } , ; : ? ! _ [] [> |[ ]| || ||| := = -> => >> .."

// Tokens returns the tokens of a text, or the byte at which reading stops.
func Tokens(text string) ([]api.Token, int, api.Errno) {
	return newScanner().all(text)
}

// Words returns the words of the language.
func Words() []string { return strings.Fields(wordList) }

// Signs returns the signs.
func Signs() []string { return strings.Fields(signList) }

// Kind returns which kind of token a text is as a whole, 0 if it is none.
func Kind(text string) int {
	s := newScanner()
	s.begin(text)
	// One step suffices: what is one token as a whole is cut by one.
	_, err := s.cut(func() bool { return s.at > 0 })
	if err != api.OK || len(s.tokens) == 0 || s.at < len(text) {
		return 0
	}
	return s.tokens[0].Kind
}

// Apart reports whether two tokens can stand side by side without a blank.
func Apart(a, b api.Token) (bool, api.Errno) {
	s := newScanner()
	if !s.right(a) || !s.right(b) {
		return false, api.ErrArg
	}
	return s.apart(a, b), api.OK
}

// Join returns tokens as a text with as few blanks as there can be.
func Join(l []api.Token) (string, api.Errno) {
	s := newScanner()
	for _, t := range l {
		if !s.right(t) {
			return "", api.ErrArg
		}
	}
	if len(l) > api.MaxTokens {
		return "", api.ErrLimit
	}
	var text strings.Builder
	for i, t := range l {
		if i > 0 && !s.apart(l[i-1], t) {
			text.WriteByte(' ')
		}
		text.WriteString(spelling(t))
	}
	if text.Len() > api.MaxText {
		return "", api.ErrLimit
	}
	return text.String(), api.OK
}

// Place returns the line and the column of a byte.
func Place(text string, at int) (int, int, api.Errno) {
	if at < 0 || at > len(text) {
		return 0, 0, api.ErrArg
	}
	ahead := text[:at]
	return strings.Count(ahead, "\n") + 1, at - strings.LastIndexByte(ahead, '\n'), api.OK
}

// Strip returns a text with blanks in the place of comments.
func Strip(text string) (string, api.Errno) {
	s := newScanner()
	if _, _, err := s.all(text); err != api.OK {
		return "", err
	}
	bare := []byte(text)
	for _, c := range s.comments {
		for i := c.at; i < c.end; i++ {
			if bare[i] != '\n' {
				bare[i] = ' '
			}
		}
	}
	return string(bare), api.OK
}

// Change returns an edited text, and its tokens, made of those that there were.
func Change(text string, l []api.Token, e api.Edit) (string, []api.Token, int, api.Errno) {
	old, _, err := Tokens(text)
	if err != api.OK || !slices.Equal(l, old) || !isWithin(e, len(text)) {
		return "", nil, 0, api.ErrArg
	}
	edited := text[:e.At] + e.S + text[e.At+e.Cut:]
	tokens, at, err := recut(edited, old, e)
	return edited, tokens, at, err
}
