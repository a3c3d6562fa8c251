package show

import "madrigal/api"

// unwritable is thrown where something cannot be written, and says why.
type unwritable struct{ err api.Errno }

func throw(err api.Errno) { panic(unwritable{err}) }

// attempt returns what is made, or the error that is thrown.
func attempt[T any](made func() T) (result T, err api.Errno) {
	defer func() {
		if u, ok := recover().(unwritable); ok {
			var none T
			result, err = none, u.err
		}
	}()
	return made(), api.OK
}

// tree returns the tree that is made, if it is within the limits.
func tree(made func() api.Node) (api.Node, api.Errno) {
	n, err := attempt(made)
	if err == api.OK && !fits(n) {
		return api.Node{}, api.ErrLimit
	}
	return n, err
}

// fits reports whether a tree is within the limits. It does not look at more of it than that.
func fits(n api.Node) bool {
	left := api.MaxTree
	return fitsIn(n, api.MaxUnder, &left)
}

func fitsIn(n api.Node, under int, left *int) bool {
	*left--
	if under == 0 || *left < 0 {
		return false
	}
	for _, x := range n.L {
		if !fitsIn(x, under-1, left) {
			return false
		}
	}
	return true
}
