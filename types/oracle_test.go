package types_test

import (
	"fmt"
	"slices"
	"strings"
	"testing"

	"madrigal/api"
	"madrigal/types"
)

// What modules amount to, once more, by names alone: sorts are names, operations are faces, equations have faces in their terms.

type tree struct {
	face string // none of a variable
	v    int
	l    []tree
}

type law struct {
	vars  []string
	conds [][2]tree
	a, b  tree
}

type told struct {
	sorts, ops []string
	laws       []law
	formal     map[string]bool // by names, faces and texts
	into       []names2        // of each of Uses
}

// names2 is what names of sorts, and faces, become.
type names2 struct{ sorts, ops map[string]string }

func faceWith(name string, args []string, res string) string {
	return name + ":" + strings.Join(args, " ") + ">" + res
}

// apart returns a face's name and its sorts.
func apart(face string) (string, []string, string) {
	i := strings.IndexByte(face, ':')
	j := strings.LastIndexByte(face, '>')
	return face[:i], strings.Fields(face[i+1 : j]), face[j+1:]
}

func (x tree) String() string {
	if x.face == "" {
		return fmt.Sprint("v", x.v)
	}
	out := x.face + "("
	for _, y := range x.l {
		out += y.String() + ","
	}
	return out + ")"
}

func (e law) String() string {
	out := slices.Clone(e.vars)
	for _, c := range e.conds {
		out = append(out, c[0].String()+"="+c[1].String()+"=>")
	}
	return strings.Join(append(out, e.a.String()+"="+e.b.String()), " ")
}

func (x tree) by(m map[string]string) tree {
	out := tree{m[x.face], x.v, nil}
	for _, y := range x.l {
		out.l = append(out.l, y.by(m))
	}
	return out
}

func (e law) by(m names2) law {
	out := law{a: e.a.by(m.ops), b: e.b.by(m.ops)}
	for _, k := range e.vars {
		out.vars = append(out.vars, m.sorts[k])
	}
	for _, c := range e.conds {
		out.conds = append(out.conds, [2]tree{c[0].by(m.ops), c[1].by(m.ops)})
	}
	return out
}

// itself is what leaves all names.
func (t told) itself() names2 {
	m := names2{map[string]string{}, map[string]string{}}
	for _, x := range t.sorts {
		m.sorts[x] = x
	}
	for _, x := range t.ops {
		m.ops[x] = x
	}
	return m
}

type noModule struct{}

func must(is bool) {
	if !is {
		panic(noModule{})
	}
}

// add adds a part by its name; one that is there has to be formal alike.
func (t *told) add(l *[]string, x string, formal bool) {
	if slices.Contains(*l, x) {
		must(t.formal[x] == formal)
		return
	}
	*l = append(*l, x)
	t.formal[x] = formal
}

func (t *told) addLaw(e law, formal bool) {
	x := e.String()
	if slices.ContainsFunc(t.laws, func(f law) bool { return f.String() == x }) {
		t.formal[x] = t.formal[x] && formal
		return
	}
	t.laws = append(t.laws, e)
	t.formal[x] = formal
}

// tell returns what the last module amounts to, or panics.
func tell(done []told, l []api.Module) told {
	m := l[len(done)]
	must(m.Name != "" && len(m.Name) <= 32)
	for _, c := range []byte(m.Name) {
		must(c > 32 && c < 127 && c != '(' && c != ')' && c != ',')
	}
	for _, x := range l[:len(done)] {
		must(x.Name != m.Name)
	}
	for _, u := range m.Uses {
		must(u >= 0 && u < len(done))
	}
	none := func(l ...int) { must(slices.Max(l) == 0) }
	lengths := func(t api.Type) int { return len(t.Sig.Sorts) + len(t.Sig.Ops) + len(t.Eqns) }
	switch m.Kind {
	case api.MoText:
		none(len(m.Sorts), len(m.Ops), len(m.SortTo), len(m.OpTo))
		return tellText(done, m)
	case api.MoRename:
		none(lengths(m.Formal), lengths(m.Own), len(m.SortTo), len(m.OpTo))
		must(len(m.Uses) == 1)
		return tellRename(done[m.Uses[0]], m)
	case api.MoActual:
		none(lengths(m.Formal), lengths(m.Own), len(m.Sorts), len(m.Ops))
		must(len(m.Uses) == 2)
		return tellActual(done[m.Uses[0]], done[m.Uses[1]], m)
	}
	panic(noModule{})
}

func tellText(done []told, m api.Module) told {
	out := told{formal: map[string]bool{}}
	for i, u := range m.Uses {
		must(!slices.Contains(m.Uses[:i], u))
		for _, x := range done[u].sorts {
			out.add(&out.sorts, x, done[u].formal[x])
		}
		for _, x := range done[u].ops {
			out.add(&out.ops, x, done[u].formal[x])
		}
		for _, e := range done[u].laws {
			out.addLaw(e, done[u].formal[e.String()])
		}
		out.into = append(out.into, done[u].itself())
	}
	out.write(m.Formal, true)
	out.write(m.Own, false)
	return out
}

// write adds what is written in a module.
func (t *told) write(w api.Type, formal bool) {
	for _, x := range w.Sig.Sorts {
		must(isToldName(x) && !strings.Contains(x, "_") && !slices.Contains(t.sorts, x))
		t.add(&t.sorts, x, formal)
	}
	sort := func(k int) string {
		must(k >= 0 && k < len(t.sorts))
		return t.sorts[k]
	}
	for _, x := range w.Sig.Ops {
		t.isOpName(x.Name, len(x.Args))
		var args []string
		for _, k := range x.Args {
			args = append(args, sort(k))
		}
		face := faceWith(x.Name, args, sort(x.Res))
		must(!slices.Contains(t.ops, face))
		t.add(&t.ops, face, formal)
	}
	for _, e := range w.Eqns {
		t.addLaw(t.law(e), formal)
	}
}

func isToldName(x string) bool {
	return x != "" && len(x) <= 32 && !strings.ContainsAny(x, "(), \n") && strings.IndexFunc(x, func(r rune) bool { return r < 33 || r > 126 }) < 0
}

func (t *told) isOpName(x string, args int) {
	n := strings.Count(x, "_")
	must(args <= 8 && isToldName(x) && (n == 0 || n == args) && strings.Trim(x, "_") != "")
}

// law returns an equation, by names and standard.
func (t *told) law(e api.Eqn) law {
	must(len(e.Vars) <= 64 && len(e.Conds) <= 8 && e.A.Kind == api.KOp)
	for _, k := range e.Vars {
		must(k >= 0 && k < len(t.sorts))
	}
	var out law
	numbers := map[int]int{}
	var read func(x api.Term, first bool) (tree, string)
	read = func(x api.Term, first bool) (tree, string) {
		if x.Kind == api.KVar {
			must(x.N >= 0 && x.N < len(e.Vars) && len(x.L) == 0)
			if _, met := numbers[x.N]; !met {
				must(first)
				numbers[x.N] = len(numbers)
				out.vars = append(out.vars, t.sorts[e.Vars[x.N]])
			}
			return tree{v: numbers[x.N]}, t.sorts[e.Vars[x.N]]
		}
		must(x.Kind == api.KOp && x.N >= 0 && x.N < len(t.ops))
		y := tree{face: t.ops[x.N]}
		var sorts []string
		for _, z := range x.L {
			w, k := read(z, first)
			y.l = append(y.l, w)
			sorts = append(sorts, k)
		}
		_, args, res := apart(y.face)
		must(slices.Equal(args, sorts))
		return y, res
	}
	two := func(a, b api.Term, first bool) [2]tree {
		x, k := read(a, first)
		y, n := read(b, false)
		must(k == n)
		return [2]tree{x, y}
	}
	main := two(e.A, e.B, true)
	out.a, out.b = main[0], main[1]
	for _, c := range e.Conds {
		out.conds = append(out.conds, two(c.A, c.B, false))
	}
	return out
}

func tellRename(used told, m api.Module) told {
	must(len(m.Sorts) == len(used.sorts) && len(m.Ops) == len(used.ops))
	out := told{formal: map[string]bool{}}
	to := names2{map[string]string{}, map[string]string{}}
	for i, x := range used.sorts {
		must(isToldName(m.Sorts[i]) && !strings.Contains(m.Sorts[i], "_") && !slices.Contains(out.sorts, m.Sorts[i]))
		to.sorts[x] = m.Sorts[i]
		out.add(&out.sorts, m.Sorts[i], used.formal[x])
	}
	for i, x := range used.ops {
		_, args, res := apart(x)
		out.isOpName(m.Ops[i], len(args))
		for j := range args {
			args[j] = to.sorts[args[j]]
		}
		to.ops[x] = faceWith(m.Ops[i], args, to.sorts[res])
		must(!slices.Contains(out.ops, to.ops[x]))
		out.add(&out.ops, to.ops[x], used.formal[x])
	}
	for _, e := range used.laws {
		out.addLaw(e.by(to), used.formal[e.String()])
	}
	out.into = []names2{to}
	return out
}

func tellActual(first, second told, m api.Module) told {
	out := told{sorts: slices.Clone(second.sorts), ops: slices.Clone(second.ops), laws: slices.Clone(second.laws), formal: map[string]bool{}}
	for x, is := range second.formal {
		out.formal[x] = is
	}
	to := names2{map[string]string{}, map[string]string{}}
	next := 0
	for _, x := range first.sorts {
		to.sorts[x] = x
		if !first.formal[x] {
			out.add(&out.sorts, x, false)
			continue
		}
		must(next < len(m.SortTo) && m.SortTo[next] >= 0 && m.SortTo[next] < len(second.sorts))
		to.sorts[x] = second.sorts[m.SortTo[next]]
		next++
	}
	must(next == len(m.SortTo))
	next = 0
	for _, x := range first.ops {
		name, args, res := apart(x)
		for j := range args {
			args[j] = to.sorts[args[j]]
		}
		face := faceWith(name, args, to.sorts[res])
		if !first.formal[x] {
			to.ops[x] = face
			out.add(&out.ops, face, false)
			continue
		}
		must(next < len(m.OpTo) && m.OpTo[next] >= 0 && m.OpTo[next] < len(second.ops))
		to.ops[x] = second.ops[m.OpTo[next]]
		name, _, _ = apart(to.ops[x])
		must(to.ops[x] == faceWith(name, args, to.sorts[res]))
		next++
	}
	must(next == len(m.OpTo))
	for _, e := range first.laws {
		if !first.formal[e.String()] {
			out.addLaw(e.by(to), false)
		}
	}
	out.into = []names2{to, second.itself()}
	return out
}

// tellAll returns what modules amount to, as far as they are some; and whether all are.
func tellAll(l []api.Module) (done []told, is bool) {
	defer func() {
		if _, none := recover().(noModule); none {
			is = false
		}
	}()
	for range l {
		done = append(done, tell(done, l))
	}
	return done, true
}

// toldDuties returns the duties in a module, as texts.
func toldDuties(l []api.Module, done []told, k int) []toldDuty {
	var all []toldDuty
	add := func(d toldDuty) {
		if !slices.ContainsFunc(all, func(e toldDuty) bool { return e.String() == d.String() }) {
			all = append(all, d)
		}
	}
	for i, u := range l[k].Uses {
		for _, d := range toldDuties(l, done, u) {
			add(toldDuty{d.module, d.e.by(done[k].into[i])})
		}
	}
	if l[k].Kind == api.MoActual {
		first := done[l[k].Uses[0]]
		for _, e := range first.laws {
			if first.formal[e.String()] {
				add(toldDuty{k, e.by(done[k].into[0])})
			}
		}
	}
	return all
}

type toldDuty struct {
	module int
	e      law
}

func (d toldDuty) String() string { return fmt.Sprint(d.module, ": ", d.e) }

// marksOf returns the marks of parts.
func marksOf(t told, l []string) []bool {
	var out []bool
	for _, x := range l {
		out = append(out, t.formal[x])
	}
	return out
}

// agree checks all that is known of a module.
func agree(t *testing.T, l []api.Module, done []told, k int) {
	t.Helper()
	f, err := types.Flatten(l, k)
	s, want := f.Type.Sig, done[k]
	var laws []string
	for _, e := range want.laws {
		laws = append(laws, e.String())
	}
	if err != api.OK || !slices.Equal(s.Sorts, want.sorts) || !slices.Equal(faces(s), want.ops) || !slices.Equal(eqnTexts(f.Type), laws) || types.Check(f.Type) != api.OK {
		t.Fatalf("Flatten of %d in %v: %v %d, not %v", k, l, f, err, want)
	}
	if !slices.Equal(f.Sorts, marksOf(want, want.sorts)) || !slices.Equal(f.Ops, marksOf(want, want.ops)) || !slices.Equal(f.Eq, marksOf(want, laws)) {
		t.Fatalf("marks of %d in %v: %v %v %v", k, l, f.Sorts, f.Ops, f.Eq)
	}
	if slices.ContainsFunc(f.Type.Eqns, func(e api.Eqn) bool { return !isStandard(e) }) {
		t.Fatalf("not standard: %v", f.Type.Eqns)
	}
	x, err := types.Closed(l, k)
	if marks := slices.Concat(f.Sorts, f.Ops, f.Eq); slices.Contains(marks, true) {
		if err != api.ErrOpen || !isZero(x) {
			t.Fatalf("Closed of %d in %v: %v %d", k, l, x, err)
		}
	} else if err != api.OK || !equal(x, f.Type) {
		t.Fatalf("Closed of %d in %v: %v %d", k, l, x, err)
	}
	for i, u := range l[k].Uses {
		m, err := types.Into(l, k, i)
		from := done[u]
		if err != api.OK || len(m.Sorts) != len(from.sorts) || len(m.Ops) != len(from.ops) {
			t.Fatalf("Into of %d, %d in %v: %v %d", k, i, l, m, err)
		}
		for j, n := range m.Sorts {
			if s.Sorts[n] != want.into[i].sorts[from.sorts[j]] {
				t.Fatalf("Into of %d, %d in %v: %v", k, i, l, m)
			}
		}
		for j, n := range m.Ops {
			if want.ops[n] != want.into[i].ops[from.ops[j]] {
				t.Fatalf("Into of %d, %d in %v: %v", k, i, l, m)
			}
		}
	}
	agreeDuties(t, l, done, k, s)
}

func agreeDuties(t *testing.T, l []api.Module, done []told, k int, s api.Sig) {
	t.Helper()
	d, err := types.Duties(l, k)
	var got, want []string
	for _, x := range d {
		got = append(got, fmt.Sprint(x.Module, ": ", eqnText(s, x.Eqn)))
		if !isStandard(x.Eqn) {
			t.Fatalf("not standard: %v", x)
		}
	}
	for _, x := range toldDuties(l, done, k) {
		want = append(want, x.String())
	}
	if err != api.OK || !slices.Equal(got, want) {
		t.Fatalf("Duties of %d in %v: %v %d, not %v", k, l, got, err, want)
	}
}
