package types

import (
	"slices"

	"madrigal/api"
)

// built is what a module amounts to, and the morphisms of the modules that it uses.
type built struct {
	flat
	into []api.Morph
}

// build returns what the modules of a list amount to.
func build(l []api.Module) ([]built, api.Errno) {
	var done []built
	err := attempt(func() {
		need(len(l) <= api.MaxModules)
		names := map[string]bool{}
		for _, m := range l {
			need(isName(m.Name) && !names[m.Name])
			names[m.Name] = true
			done = append(done, module(done, m))
		}
	})
	return done, err
}

// CheckModules returns ErrModule unless l is a list of modules.
func CheckModules(l []api.Module) api.Errno {
	_, err := build(l)
	return err
}

// builtTo returns what the modules of a list amount to, and ErrArg unless k is an index of it.
func builtTo(l []api.Module, k int) ([]built, api.Errno) {
	done, err := build(l)
	if err == api.OK && (k < 0 || k >= len(l)) {
		err = api.ErrArg
	}
	return done, err
}

// Flatten returns what a module amounts to.
func Flatten(l []api.Module, k int) (api.Flat, api.Errno) {
	done, err := builtTo(l, k)
	if err != api.OK {
		return api.Flat{}, err
	}
	return done[k].exported(), api.OK
}

// Into returns the morphism of a used module into one that uses it.
func Into(l []api.Module, k, use int) (api.Morph, api.Errno) {
	done, err := builtTo(l, k)
	if err != api.OK {
		return api.Morph{}, err
	}
	if use < 0 || use >= len(done[k].into) {
		return api.Morph{}, api.ErrArg
	}
	return done[k].into[use], api.OK
}

// Duties returns the equations that have to hold in a module.
func Duties(l []api.Module, k int) (out []api.Duty, err api.Errno) {
	done, err := builtTo(l, k)
	if err != api.OK {
		return nil, err
	}
	err = attempt(func() { out = dutiesIn(l, done, k) })
	return out, err
}

// Closed returns the type of a module without formal parts.
func Closed(l []api.Module, k int) (api.Type, api.Errno) {
	f, err := Flatten(l, k)
	if err != api.OK {
		return api.Type{}, err
	}
	if slices.Contains(f.Sorts, true) || slices.Contains(f.Ops, true) || slices.Contains(f.Eq, true) {
		return api.Type{}, api.ErrOpen
	}
	return f.Type, api.OK
}
