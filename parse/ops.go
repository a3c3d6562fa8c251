package parse

import (
	"strings"

	"madrigal/api"
	"madrigal/lex"
)

// maxParts is how many parts an operation has at most.
const maxParts = 8

// greatest is the priority of what needs no brackets anywhere.
const greatest = api.MaxPrio + 1

// operation is an operation with its name.
type operation struct {
	api.Mix
	name string
}

// isRight reports whether an operation alone is as it has to be, but for what its parts are.
func isRight(x api.Mix) bool {
	if len(x.Parts) < 1 || len(x.Parts) > maxParts || arguments(x) < 1 {
		return false
	}
	return x.Prio >= 1 && x.Prio <= api.MaxPrio && x.Side >= api.SideNone && x.Side <= api.SideRight
}

// areParts reports whether each of these texts is a name, or a name of symbols. They are few enough to be joined, which asks of all of them at once whether they are right.
func areParts(l []string) bool {
	tokens := make([]api.Token, len(l))
	for i, x := range l {
		tokens[i] = partToken(x)
	}
	_, err := lex.Join(tokens)
	return err == api.OK
}

// order returns the N of an operation's node, in which prioOf and sideOf find its priority and its side.
func order(prio, side int) int { return 4*prio + side }

func prioOf(n api.Node) int { return n.N / 4 }

func sideOf(n api.Node) int { return n.N % 4 }

// arguments returns how many arguments an operation has.
func arguments(x api.Mix) int {
	n := len(x.Parts) - 1
	if x.Left {
		n++
	}
	if x.Right {
		n++
	}
	return n
}

// nameOf returns the name of an operation: its parts, and a _ in the place of each argument.
func nameOf(x api.Mix) string {
	name := strings.Join(x.Parts, "_")
	if x.Left {
		name = "_" + name
	}
	if x.Right {
		name += "_"
	}
	return name
}

// mixOf returns how the operation of a node is written, whose name has a _.
func mixOf(n api.Node) api.Mix {
	x := api.Mix{Parts: strings.Split(n.S, "_"), Prio: prioOf(n), Side: sideOf(n)}
	if x.Parts[0] == "" {
		x.Left = true
		x.Parts = x.Parts[1:]
	}
	if last := len(x.Parts) - 1; x.Parts[last] == "" {
		x.Right = true
		x.Parts = x.Parts[:last]
	}
	return x
}

// declared returns the operations with arguments within their names that a tree declares, each different one once.
func declared(n api.Node) []api.Mix {
	type written struct {
		name  string
		order int
	}
	var ops []api.Mix
	seen := map[written]bool{}
	eachOf(n, api.NdOp, func(x api.Node) {
		w := written{x.S, x.N}
		if hasPlaces(x.S) && !seen[w] {
			seen[w] = true
			ops = append(ops, mixOf(x))
		}
	})
	return ops
}

// own returns the priority that what an operation makes has without brackets.
func (o operation) own() int {
	if !o.Left && !o.Right {
		return greatest
	}
	return o.Prio
}

// limit returns up to which priority the last argument is read.
func (o operation) limit() int {
	if o.Side == api.SideRight || !o.Left {
		return o.Prio
	}
	return o.Prio + 1
}

// admits reports whether what has a priority can stand to the left.
func (o operation) admits(prio int) bool {
	return prio > o.Prio || prio == o.Prio && o.Side == api.SideLeft
}
