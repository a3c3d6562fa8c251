package sig

import (
	"cmp"
	"slices"

	"madrigal/api"
)

// Tree returns ErrTerm unless t is a tree.
func Tree(t api.Term) api.Errno {
	// The size is taken first: what shares memory can have far more nodes than can be gone through.
	if n, _ := Size(t); n > api.MaxNodes || !visit(t, isNode) {
		return api.ErrTerm
	}
	return api.OK
}

func isNode(t api.Term) bool {
	switch t.Kind {
	case api.KVar:
		return t.N >= 0 && len(t.L) == 0
	case api.KOp:
		return t.N >= 0 && len(t.L) <= api.MaxArgs
	}
	return false
}

func areTrees(l []api.Term) bool {
	for _, t := range l {
		if Tree(t) != api.OK {
			return false
		}
	}
	return true
}

// visit shows each node of a tree, ahead of its elements, to look, up to the first one that look refuses; it reports whether there is none.
func visit(t api.Term, look func(api.Term) bool) bool {
	if !look(t) {
		return false
	}
	for _, x := range t.L {
		if !visit(x, look) {
			return false
		}
	}
	return true
}

// Same reports whether two trees are equal.
func Same(a, b api.Term) bool {
	return a.Kind == b.Kind && a.N == b.N && slices.EqualFunc(a.L, b.L, Same)
}

// Compare compares two trees.
func Compare(a, b api.Term) int {
	if c := cmp.Or(cmp.Compare(a.Kind, b.Kind), cmp.Compare(a.N, b.N), cmp.Compare(len(a.L), len(b.L))); c != 0 {
		return c
	}
	return slices.CompareFunc(a.L, b.L, Compare)
}

// Size returns how many nodes a tree has, and how deep it is.
func Size(t api.Term) (int, int) {
	nodes, deepest := 0, 0
	var look func(t api.Term, deep int) bool
	look = func(t api.Term, deep int) bool {
		nodes++
		deepest = max(deepest, deep)
		if nodes > api.MaxNodes || deep > api.MaxDeep {
			return false
		}
		for _, x := range t.L {
			if !look(x, deep+1) {
				return false
			}
		}
		return true
	}
	if !look(t, 1) {
		return api.MaxNodes + 1, api.MaxDeep + 1
	}
	return nodes, deepest
}

// Vars returns the variables of trees, each once, by their first occurrence.
func Vars(l []api.Term) []int {
	if !areTrees(l) {
		return nil
	}
	return variables(l)
}

// variables returns what Vars does, of trees.
func variables(l []api.Term) []int {
	var out []int
	met := map[int]bool{}
	for _, t := range l {
		visit(t, func(x api.Term) bool {
			if x.Kind == api.KVar && !met[x.N] {
				met[x.N] = true
				out = append(out, x.N)
			}
			return true
		})
	}
	return out
}

// greatest returns the greatest variable of trees, -1 if there is none.
func greatest(l []api.Term) int {
	top := -1
	for _, t := range l {
		visit(t, func(x api.Term) bool {
			if x.Kind == api.KVar {
				top = max(top, x.N)
			}
			return true
		})
	}
	return top
}

// Ground reports whether a tree has no variables.
func Ground(t api.Term) bool {
	return Tree(t) == api.OK && visit(t, func(x api.Term) bool { return x.Kind != api.KVar })
}
