package show

import (
	"slices"
	"strconv"
	"strings"

	"madrigal/api"
	"madrigal/parse"
)

// spelling is what two operations have in common that a tree of a term does not tell apart.
type spelling struct {
	name      string
	arguments int
}

// opNames is how the operations of a signature are written.
type opNames struct {
	mixes  []api.Mix
	count  map[spelling]int // how many operations there are
	begins map[string]bool  // the first parts of operations without an argument to the left
	consts map[string]bool  // operations without arguments
}

// readable returns how the operations of a signature are written, if they can be read.
func readable(s api.Sig) (opNames, api.Errno) {
	o := opNames{count: map[spelling]int{}, begins: map[string]bool{}, consts: map[string]bool{}}
	for _, x := range s.Ops {
		if !o.add(x) {
			return opNames{}, api.ErrNames
		}
	}
	if parse.CheckOps(o.mixes) != api.OK || !areNames(s.Sorts) || !o.areReadable() {
		return opNames{}, api.ErrNames
	}
	return o, api.OK
}

// add adds an operation, and reports whether it has as many arguments as its name says.
func (o *opNames) add(x api.Op) bool {
	key := spelling{x.Name, len(x.Args)}
	o.count[key]++
	if len(x.Args) == 0 {
		o.consts[x.Name] = true
	}
	if !strings.Contains(x.Name, "_") {
		return true
	}
	if o.count[key] == 1 {
		mix := mixOf(x.Name)
		o.mixes = append(o.mixes, mix)
		if !mix.Left && len(mix.Parts) > 0 {
			o.begins[mix.Parts[0]] = true
		}
	}
	return strings.Count(x.Name, "_") == len(x.Args)
}

// mixOf returns how an operation is written whose name has a _.
func mixOf(name string) api.Mix {
	x := api.Mix{Parts: strings.Split(name, "_"), Prio: api.MaxPrio, Side: api.SideNone}
	if x.Parts[0] == "" {
		x.Left = true
		x.Parts = x.Parts[1:]
	}
	if last := len(x.Parts) - 1; last >= 0 && x.Parts[last] == "" {
		x.Right = true
		x.Parts = x.Parts[:last]
	}
	return x
}

// areReadable reports whether operations that are not written around their arguments can be read.
func (o *opNames) areReadable() bool {
	var tokens []api.Token
	for x := range o.count {
		switch n, isNumber := numberOf(x.name); {
		case strings.Contains(x.name, "_"):
		case isNumber && x.arguments == 0:
			tokens = append(tokens, numberToken(n))
		case o.begins[x.name]:
			return false
		default:
			tokens = append(tokens, partToken(x.name))
		}
	}
	return areRight(tokens)
}

// isFree reports whether a variable may have a name, if it is one.
func (o *opNames) isFree(name string) bool { return !o.consts[name] && !o.begins[name] }

// areVariables reports whether variables may have these names.
func (o *opNames) areVariables(l []string) bool {
	return len(l) <= api.MaxVars && areDifferent(l) && areNames(l) && !slices.ContainsFunc(l, func(x string) bool { return !o.isFree(x) })
}

func areGates(l []string) bool { return len(l) <= api.MaxGates && areDifferent(l) && areNames(l) }

func areDifferent(l []string) bool {
	seen := map[string]bool{}
	for _, x := range l {
		seen[x] = true
	}
	return len(seen) == len(l)
}

// scope is the names of the gates, or of the variables, that are seen, by their numbers.
type scope struct {
	names []string
	has   map[string]bool
}

func newScope(names []string) scope {
	s := scope{has: map[string]bool{}}
	s.bind(names)
	return s
}

// bind adds names, and returns what takes them out again.
func (s *scope) bind(names []string) (unbind func()) {
	before := len(s.names)
	s.names = append(s.names, names...)
	for _, x := range names {
		s.has[x] = true
	}
	return func() {
		for _, x := range s.names[before:] {
			delete(s.has, x)
		}
		s.names = s.names[:before]
	}
}

// namer returns what names a number: a letter and the number, with as many ' behind it as make it free.
func namer(letter string, isFree func(string) bool) func(int) string {
	return func(number int) string {
		name := letter + strconv.Itoa(number)
		for !isFree(name) {
			name += "'"
		}
		if len(name) > api.MaxName {
			throw(api.ErrNames)
		}
		return name
	}
}
