package types

import "madrigal/api"

// wrong is thrown where something is no module, or too large.
type wrong struct{ err api.Errno }

// need throws ErrModule unless something is so.
func need(is bool) {
	if !is {
		panic(wrong{api.ErrModule})
	}
}

// limit throws ErrLimit unless something is so.
func limit(is bool) {
	if !is {
		panic(wrong{api.ErrLimit})
	}
}

// attempt returns the error that is thrown.
func attempt(do func()) (err api.Errno) {
	defer func() {
		if w, is := recover().(wrong); is {
			err = w.err
		}
	}()
	do()
	return api.OK
}
