package parse

import "madrigal/api"

// Same reports whether two trees are equal, but for places.
func Same(a, b api.Node) bool {
	if a.Kind != b.Kind || a.N != b.N || a.S != b.S || len(a.L) != len(b.L) {
		return false
	}
	for i := range a.L {
		if !Same(a.L[i], b.L[i]) {
			return false
		}
	}
	return true
}

// Bare returns a tree without places.
func Bare(n api.Node) api.Node {
	bare := api.Node{Kind: n.Kind, N: n.N, S: n.S, L: make([]api.Node, len(n.L))}
	for i, x := range n.L {
		bare.L[i] = Bare(x)
	}
	return bare
}

// Size returns how many nodes a tree has, and how deep it is.
func Size(n api.Node) (int, int) {
	nodes, deep := 1, 0
	for _, x := range n.L {
		more, under := Size(x)
		nodes += more
		deep = max(deep, under)
	}
	return nodes, deep + 1
}

// Around returns the way to the innermost node that has a byte.
func Around(n api.Node, at int) ([]int, bool) {
	if !has(n, at) {
		return nil, false
	}
	var way []int
	for {
		i := firstWith(n.L, at)
		if i < 0 {
			return way, true
		}
		way = append(way, i)
		n = n.L[i]
	}
}

func has(n api.Node, at int) bool { return n.At <= at && at < n.End }

// firstWith returns the index of the first node that has a byte, -1 if none has it.
func firstWith(l []api.Node, at int) int {
	for i, x := range l {
		if has(x, at) {
			return i
		}
	}
	return -1
}

// eachOf calls f with the nodes of a kind, in order.
func eachOf(n api.Node, kind int, f func(api.Node)) {
	if n.Kind == kind {
		f(n)
	}
	for _, x := range n.L {
		eachOf(x, kind, f)
	}
}
