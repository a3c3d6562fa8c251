package show

import (
	"strconv"

	"madrigal/api"
	"madrigal/lex"
)

// tokens is what has been written. (What is no name becomes a token that is not right, which lex.Join refuses.)
type tokens struct{ list []api.Token }

// words writes words of the language, and signs.
func (w *tokens) words(l ...string) {
	for _, x := range l {
		kind := api.TkSign
		if isLetter(x[0]) {
			kind = api.TkKey
		}
		w.list = append(w.list, api.Token{Kind: kind, S: x})
	}
}

func (w *tokens) name(s string) { w.list = append(w.list, nameToken(s)) }

// part writes an operation's part: a name, or a name of symbols.
func (w *tokens) part(s string) { w.list = append(w.list, partToken(s)) }

func (w *tokens) number(n int) { w.list = append(w.list, numberToken(n)) }

// digits writes a number that stands as digits in a tree.
func (w *tokens) digits(s string) {
	n, is := numberOf(s)
	if !is {
		throw(api.ErrShown)
	}
	w.number(n)
}

// declaredName writes an operation's name as it is declared: parts, and _ in the place of arguments.
func (w *tokens) declaredName(s string) {
	l, _, err := lex.Tokens(s)
	if err != api.OK {
		throw(api.ErrTree)
	}
	w.list = append(w.list, l...)
}

func nameToken(s string) api.Token { return api.Token{Kind: api.TkName, S: s} }

func numberToken(n int) api.Token { return api.Token{Kind: api.TkNum, N: n} }

func partToken(s string) api.Token {
	if s != "" && isLetter(s[0]) {
		return nameToken(s)
	}
	return api.Token{Kind: api.TkSym, S: s}
}

// numberOf returns the number whose digits a text is, without zeros ahead.
func numberOf(s string) (int, bool) {
	n, err := strconv.Atoi(s)
	return n, err == nil && strconv.Itoa(n) == s
}

func isLetter(b byte) bool { return 'a' <= b && b <= 'z' || 'A' <= b && b <= 'Z' }

func isDigit(b byte) bool { return '0' <= b && b <= '9' }

// areRight reports whether tokens are right. (It asks of all of them at once, which spares making the tables of lex anew for each.)
func areRight(l []api.Token) bool {
	_, err := lex.Join(l)
	return err != api.ErrArg
}

// areNames reports whether all texts are names.
func areNames(l []string) bool {
	tokens := make([]api.Token, len(l))
	for i, x := range l {
		tokens[i] = nameToken(x)
	}
	return areRight(tokens)
}
