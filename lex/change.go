package lex

import (
	"sort"

	"madrigal/api"
)

// isWithin reports whether an edit fits into a text of this size. (The sum of At and Cut could be beyond an int.)
func isWithin(e api.Edit, size int) bool {
	return e.At >= 0 && e.Cut >= 0 && e.At <= size && e.Cut <= size-e.At
}

// recut returns the tokens of an edited text. It keeps those of old, the tokens before the edit, that stand ahead of it or behind it, and cuts what is in between.
func recut(edited string, old []api.Token, e api.Edit) ([]api.Token, int, api.Errno) {
	if len(edited) > api.MaxText {
		return nil, 0, api.ErrLimit
	}
	s := newScanner()
	s.begin(edited)
	// The byte behind a token decides that the token ends there: it has to be ahead of the edit, too.
	ahead := sort.Search(len(old), func(i int) bool { return old[i].End >= e.At })
	if ahead > 0 {
		s.tokens = append(s.tokens, old[:ahead]...)
		s.at = old[ahead-1].End
	}
	moved := len(e.S) - e.Cut
	behind := len(old)
	at, err := s.cut(func() bool {
		if s.at < e.At+len(e.S) {
			return false
		}
		// Where a token began, outside of comments then and now, the rest is cut as it was.
		next := sort.Search(len(old), func(i int) bool { return old[i].At+moved >= s.at })
		if next == len(old) || old[next].At+moved != s.at {
			return false
		}
		behind = next
		return true
	})
	for _, t := range old[behind:] {
		t.At += moved
		t.End += moved
		s.tokens = append(s.tokens, t)
	}
	return s.result(at, err)
}
