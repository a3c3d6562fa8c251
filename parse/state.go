package parse

import (
	"strconv"

	"madrigal/api"
)

// halt is thrown where reading stops.
type halt struct {
	at  int
	err api.Errno
}

// state is how far tokens have been read. The last one of them is none of the text: it stands where the text ends, or an extent.
type state struct {
	tokens []api.Token
	at     int
	err    api.Errno // why reading stops, if it does
}

// newState returns the state ahead of tokens, behind which the byte end follows. It keeps no memory of them.
func newState(tokens []api.Token, end int, err api.Errno) state {
	all := make([]api.Token, 0, len(tokens)+1)
	all = append(all, tokens...)
	return state{tokens: append(all, api.Token{At: end, End: end}), err: err}
}

func (s *state) now() api.Token { return s.tokens[s.at] }

// next returns the token behind the one that is read now.
func (s *state) next() api.Token { return s.tokens[min(s.at+1, len(s.tokens)-1)] }

func (s *state) ended() bool { return s.at == len(s.tokens)-1 }

func (s *state) throw() { panic(halt{s.now().At, s.err}) }

// is reports whether a word, a sign or a part stands here.
func (s *state) is(x string) bool { return s.now().S == x }

func (s *state) isName() bool { return s.now().Kind == api.TkName }

func (s *state) isNumber() bool { return s.now().Kind == api.TkNum }

// isPart reports whether an operation's part stands here.
func (s *state) isPart() bool { return s.isName() || s.now().Kind == api.TkSym }

// skip passes over a word, a sign or a part, if it stands here.
func (s *state) skip(x string) bool {
	if !s.is(x) {
		return false
	}
	s.at++
	return true
}

func (s *state) need(x string) {
	if !s.skip(x) {
		s.throw()
	}
}

// take returns the token that stands here, which has to be right, and passes over it.
func (s *state) take(isRight bool) api.Token {
	if !isRight {
		s.throw()
	}
	t := s.now()
	s.at++
	return t
}

func (s *state) name() string { return s.take(s.isName()).S }

func (s *state) number() int { return s.take(s.isNumber()).N }

// node returns a node with the place of the tokens that have been read from the given one on.
func (s *state) node(from int, n api.Node) api.Node {
	n.At = s.tokens[from].At
	n.End = n.At
	if s.at > from {
		n.End = s.tokens[s.at-1].End
	}
	return n
}

// spelled returns how tokens are written, one directly behind the other.
func spelled(l []api.Token) string {
	var b []byte
	for _, t := range l {
		if t.Kind == api.TkNum {
			b = strconv.AppendInt(b, int64(t.N), 10)
		}
		b = append(b, t.S...)
	}
	return string(b)
}
