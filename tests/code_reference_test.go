package tests

import (
	"fmt"
	"slices"
	"strings"
	"testing"

	"loop.example/s00095/impl"
)

// refGoals are the goals of a flat body.
func refGoals(body []impl.Cell) [][]impl.Cell {
	if shape(body) == "true/0" {
		return nil
	}
	var goals [][]impl.Cell
	for shape(body) == ",/2" {
		goals, body = append(goals, argTerms(body)[0]), argTerms(body)[1]
	}
	return append(goals, body)
}

func refIsChoice(goal []impl.Cell) bool {
	return slices.Contains([]string{"$level/1", "$mark/1", "$cut/1"}, shape(goal))
}

func refIsCall(goal []impl.Cell) bool {
	for name, arity := range builtinArities {
		if shape(goal) == fmt.Sprintf("%s/%d", name, arity) {
			return false
		}
	}
	return !refIsChoice(goal)
}

// refClasses is a second reading of the classes: it looks at all places of each variable.
func refClasses(x []impl.Cell) string {
	chunks := [][]impl.Cell{argTerms(x)[0]}
	for _, goal := range refGoals(argTerms(x)[1]) {
		last := len(chunks) - 1
		chunks[last] = slices.Concat(chunks[last], goal)
		if refIsCall(goal) {
			chunks = append(chunks, nil)
		}
	}
	letters := ""
	for v := range len(impl.TermVars(x)) {
		places, within := 0, 0
		for _, chunk := range chunks {
			here := 0
			for _, c := range chunk {
				if c.Kind == impl.TermVar && c.N == v {
					here++
				}
			}
			places, within = places+here, within+min(here, 1)
		}
		switch {
		case places == 1:
			letters += "v"
		case within > 1:
			letters += "p"
		default:
			letters += "t"
		}
	}
	return letters
}

// refCode is a second reading of 9.1: it writes lines, and looks into them for the registers that there were.
type refCode struct {
	lines   []string
	classes string
	temps   map[int]string
	next    int
}

func (r *refCode) put(format string, values ...any) {
	r.lines = append(r.lines, fmt.Sprintf(format, values...))
}

func (r *refCode) nextX() string {
	r.next++
	return fmt.Sprintf("x%d", r.next-1)
}

// register answers that of a variable that is not void, and whether no line has it yet.
func (r *refCode) register(v int) (string, bool) {
	if r.classes[v] == 'p' {
		name := fmt.Sprintf("y%d", strings.Count(r.classes[:v], "p"))
		return name, !slices.ContainsFunc(r.lines, func(line string) bool { return slices.Contains(strings.Fields(line), name) })
	}
	name, isThere := r.temps[v]
	if !isThere {
		name = r.nextX()
		r.temps[v] = name
	}
	return name, !isThere
}

// refCell is a constant, or a name and arity, as insOf reads it.
func refCell(c impl.Cell) string {
	switch c.Kind {
	case impl.TermInt:
		return fmt.Sprint(c.N)
	case impl.TermAtom:
		return fmt.Sprintf("%q", c.Text)
	}
	return fmt.Sprintf("%q/%d", c.Text, c.N)
}

// place puts the line of an argument that is no compound; words are begun by get, unify, put or set.
func (r *refCode) place(word string, x []impl.Cell, behind string) {
	switch {
	case x[0].Kind != impl.TermVar:
		r.put("%sconst %s%s", word, refCell(x[0]), behind)
	case r.classes[x[0].N] == 'v':
		if word != "get" {
			r.put("%svoid%s", word, behind)
		}
	default:
		name, isFirst := r.register(x[0].N)
		if isFirst {
			r.put("%svar %s%s", word, name, behind)
		} else {
			r.put("%sval %s%s", word, name, behind)
		}
	}
}

type refPart struct {
	term []impl.Cell
	in   string
}

// headArgument goes through a compound depth by depth.
func (r *refCode) headArgument(x []impl.Cell, i int) {
	if x[0].Kind != impl.TermComp {
		r.place("get", x, fmt.Sprintf(" a%d", i))
		return
	}
	depth := []refPart{{x, fmt.Sprintf("a%d", i)}}
	for len(depth) > 0 {
		var deeper []refPart
		for _, part := range depth {
			r.put("getstruct %s %s", refCell(part.term[0]), part.in)
			for _, arg := range argTerms(part.term) {
				if arg[0].Kind != impl.TermComp {
					r.place("unify", arg, "")
					continue
				}
				name := r.nextX()
				r.put("unifyvar %s", name)
				deeper = append(deeper, refPart{arg, "a" + name[1:]})
			}
		}
		depth = deeper
	}
}

func (r *refCode) build(x []impl.Cell, in string) {
	args := argTerms(x)
	names := make([]string, len(args))
	for i, arg := range args {
		if arg[0].Kind == impl.TermComp {
			names[i] = r.nextX()
			r.build(arg, names[i])
		}
	}
	r.put("putstruct %s %s", refCell(x[0]), in)
	for i, arg := range args {
		if names[i] != "" {
			r.put("setval %s", names[i])
		} else {
			r.place("set", arg, "")
		}
	}
}

func (r *refCode) goal(x []impl.Cell, isLast bool, leave func()) {
	args := argTerms(x)
	if refIsChoice(x) {
		name := "x255"
		if r.classes[args[0][0].N] != 'v' {
			name, _ = r.register(args[0][0].N)
		}
		r.put("%s %s", strings.TrimPrefix(string(x[0].Text), "$"), name)
		return
	}
	for i, arg := range args {
		if arg[0].Kind == impl.TermComp {
			r.build(arg, fmt.Sprintf("x%d", i))
		} else {
			r.place("put", arg, fmt.Sprintf(" a%d", i))
		}
	}
	functor := fmt.Sprintf("%q/%d", x[0].Text, len(args))
	switch {
	case !refIsCall(x):
		r.put("builtin %s", functor)
	case !isLast:
		r.put("call %s", functor)
	default:
		leave()
		r.put("execute %s", functor)
	}
}

// refCompile answers the code of a flat clause, or CodeLimit.
func refCompile(x []impl.Cell) ([]impl.Ins, int) {
	head, goals := argTerms(x)[0], refGoals(argTerms(x)[1])
	r := &refCode{classes: refClasses(x), temps: map[int]string{}}
	for _, part := range append(slices.Clone(goals), head) {
		r.next = max(r.next, len(argTerms(part)))
	}
	hasEnvironment := strings.Contains(r.classes, "p")
	for i, goal := range goals {
		hasEnvironment = hasEnvironment || i < len(goals)-1 && refIsCall(goal)
	}
	leave := func() {
		if hasEnvironment {
			r.put("deallocate")
		}
	}
	if hasEnvironment {
		r.put("allocate a%d", strings.Count(r.classes, "p"))
	}
	for i, arg := range argTerms(head) {
		r.headArgument(arg, i)
	}
	for i, goal := range goals {
		r.goal(goal, i == len(goals)-1, leave)
	}
	if len(goals) == 0 || !refIsCall(goals[len(goals)-1]) {
		leave()
		r.put("proceed")
	}
	if r.next > 256 {
		return nil, impl.CodeLimit
	}
	var all []impl.Ins
	for _, line := range r.lines {
		all = append(all, insOf(line))
	}
	return all, impl.CodeOK
}

// mixedArg is a variable of the first so many, a constant or a compound, and this alone as long as more than 4 may be
// within it.
func mixedArg(d *dice, vars int, depth int) []impl.Cell {
	constants := []string{"a", "b", "[]", "1", "-7", "'A'", "+"}
	switch kind := d.below(6); {
	case depth > 4:
	case kind < 3:
		return varTerm(d.below(vars))
	case kind == 3 || depth == 0:
		return parsed(constants[d.below(len(constants))])
	}
	var args [][]impl.Cell
	for range 1 + d.below(3) {
		args = append(args, mixedArg(d, vars, depth-1))
	}
	return compTerm([]string{"f", "g", ".", "a", "-"}[d.below(5)], args...)
}

func mixedGoal(d *dice, vars int, depth int) []impl.Cell {
	goals := []string{"q/0", "q/1", "q/2", "q/3", "r/2", "$1/2", "call/1", "true/0", "nl/0", "write/1", "=/2", "is/2", "functor/3", "write/2", "$level/1", "$mark/1", "$cut/1", "$cut/2"}
	c := cellOf(goals[d.below(len(goals))])
	var args [][]impl.Cell
	for range c.N {
		args = append(args, mixedArg(d, vars, depth))
	}
	if x := compTerm(string(c.Text), args...); c.N > 0 && refIsChoice(x) {
		return compTerm(string(c.Text), varTerm(d.below(vars)))
	}
	if c.N == 0 {
		return atomTerm(string(c.Text))
	}
	return compTerm(string(c.Text), args...)
}

// mixedFlat is a flat clause of a head with this name and arity.
func mixedFlat(d *dice, name string, arity int) []impl.Cell {
	vars, depth := 1+d.below(8), d.below(5)
	if d.below(20) == 0 {
		depth = 6 + d.below(3) // great enough for more registers than there are
	}
	head := atomTerm(name)
	if arity > 0 {
		var args [][]impl.Cell
		for range arity {
			args = append(args, mixedArg(d, vars, depth))
		}
		head = compTerm(name, args...)
	}
	goals := [][]impl.Cell{}
	for range d.below(8) {
		goals = append(goals, mixedGoal(d, vars, depth))
	}
	if len(goals) == 0 {
		goals = append(goals, atomTerm("true"))
	}
	return rule(head, goals...)
}

func TestCompileReference(t *testing.T) {
	d := dice(91)
	codes := map[int]int{}
	for range 6000 {
		x := mixedFlat(&d, "p", d.below(5))
		if !impl.ValidTerm(x) {
			wantNoClause(t, showCells(x), x, impl.CodeBad)
			continue
		}
		wantClasses(t, showCells(x), x, refClasses(x))
		want, wantCode := refCompile(x)
		got, code := impl.CompileClause(x)
		codes[code]++
		if code != wantCode || showIns(got) != showIns(want) {
			t.Errorf("%s:\n got %d\n%s\nwant %d\n%s", showCells(x), code, showIns(got), wantCode, showIns(want))
		}
		if said, fault := unfolded(got, x[1]); code == impl.CodeOK && (fault != "" || showCells(said) != showCells(x)) {
			t.Errorf("%s:\nits code says %s %s", showCells(x), showCells(said), fault)
		}
	}
	if codes[impl.CodeOK] < 5000 || codes[impl.CodeLimit] < 20 {
		t.Errorf("codes %v", codes)
	}
}

// hole is a term that is not known at first.
type hole struct {
	same *hole
	cell *impl.Cell
	args []*hole
}

func (h *hole) end() *hole {
	for h.same != nil {
		h = h.same
	}
	return h
}

// unfolding carries out the code of a clause on holes.
type unfolding struct {
	x, y    map[int]*hole
	pointer []*hole
	goals   []*hole
	fault   string
}

func (u *unfolding) read(r int) *hole {
	from := u.x
	if r < 0 {
		from = u.y
	}
	if from[r] == nil {
		u.fault += fmt.Sprintf("register %d has nothing; ", r)
		return &hole{}
	}
	return from[r]
}

func (u *unfolding) write(r int, h *hole) {
	switch {
	case r >= 0:
		u.x[r] = h
	case u.y == nil:
		u.fault += fmt.Sprintf("register %d without an environment; ", r)
	default:
		u.y[r] = h
	}
}

func (u *unfolding) next() *hole {
	if len(u.pointer) == 0 {
		u.fault += "no argument is left; "
		return &hole{}
	}
	h := u.pointer[0]
	u.pointer = u.pointer[1:]
	return h
}

// fill makes a constant or compound of a hole.
func (u *unfolding) fill(h *hole, c impl.Cell) {
	if len(u.pointer) != 0 {
		u.fault += "arguments are left; "
	}
	h = h.end()
	h.cell, u.pointer = &c, nil
	if c.Kind == impl.TermComp {
		for range c.N {
			h.args = append(h.args, &hole{})
		}
		u.pointer = h.args
	}
}

func constantHole(c impl.Cell) *hole {
	return &hole{cell: &c}
}

func (u *unfolding) goal(c impl.Cell) {
	g := &hole{cell: &c}
	if c.Kind == impl.TermComp {
		for i := range c.N {
			g.args = append(g.args, u.read(i))
		}
	}
	u.goals = append(u.goals, g)
}

func (u *unfolding) choice(name string, r int) {
	from := u.x
	if r < 0 {
		from = u.y
	}
	h := from[r]
	if h == nil {
		h = &hole{}
	}
	if r != 255 {
		u.write(r, h)
	}
	c := compCell(name, 1)
	u.goals = append(u.goals, &hole{cell: &c, args: []*hole{h}})
}

// step carries out one instruction, and answers whether the clause goes on.
func (u *unfolding) step(i impl.Ins) bool {
	switch i.Op {
	case impl.InsAllocate:
		u.y = map[int]*hole{}
	case impl.InsDeallocate:
		// What a last goal has in its registers is kept, the environment is not.
		u.y = nil
	case impl.InsGetVar:
		u.write(i.R, u.read(i.A))
	case impl.InsGetVal:
		u.read(i.A).end().same = u.read(i.R).end()
	case impl.InsGetConst, impl.InsGetStruct:
		u.fill(u.read(i.A), i.C)
	case impl.InsUnifyVar, impl.InsSetVar:
		u.write(i.R, u.next())
	case impl.InsUnifyVal, impl.InsSetVal:
		u.next().same = u.read(i.R).end()
	case impl.InsUnifyConst, impl.InsSetConst:
		u.next().same = constantHole(i.C)
	case impl.InsUnifyVoid, impl.InsSetVoid:
		u.next()
	case impl.InsPutVar:
		u.write(i.R, &hole{})
		u.write(i.A, u.read(i.R))
	case impl.InsPutVal:
		u.write(i.A, u.read(i.R))
	case impl.InsPutConst:
		u.write(i.A, constantHole(i.C))
	case impl.InsPutVoid:
		u.write(i.A, &hole{})
	case impl.InsPutStruct:
		h := &hole{}
		u.fill(h, i.C)
		u.write(i.R, h)
	case impl.InsLevel, impl.InsMark, impl.InsCut:
		u.choice([]string{"$level", "$mark", "$cut"}[i.Op-impl.InsLevel], i.R)
	case impl.InsBuiltin:
		u.goal(i.C)
	case impl.InsCall:
		u.goal(i.C)
		u.x = map[int]*hole{}
	case impl.InsExecute:
		u.goal(i.C)
		return false
	case impl.InsProceed:
		return false
	default:
		u.fault += fmt.Sprintf("instruction %d; ", i.Op)
	}
	return true
}

func (h *hole) cells(numbers map[*hole]int) []impl.Cell {
	h = h.end()
	if h.cell == nil {
		n, isThere := numbers[h]
		if !isThere {
			n = len(numbers)
			numbers[h] = n
		}
		return varTerm(n)
	}
	all := []impl.Cell{*h.cell}
	for _, arg := range h.args {
		all = append(all, arg.cells(numbers)...)
	}
	return all
}

// unfolded answers the clause that code says, for a head of this name and arity.
func unfolded(code []impl.Ins, functor impl.Cell) ([]impl.Cell, string) {
	u := &unfolding{x: map[int]*hole{}}
	head := &hole{cell: &functor}
	if functor.Kind == impl.TermComp {
		for i := range functor.N {
			head.args = append(head.args, &hole{})
			u.x[i] = head.args[i]
		}
	}
	for at, i := range code {
		if goesOn := u.step(i); goesOn == (at == len(code)-1) {
			u.fault += fmt.Sprintf("it ends at %d; ", at)
		}
	}
	if u.y != nil {
		u.fault += "the environment is not left; "
	}
	numbers := map[*hole]int{}
	clause := compTerm(":-", head.cells(numbers))[:1]
	clause[0].N = 2
	clause = append(clause, head.cells(numbers)...)
	for i, g := range u.goals {
		if i < len(u.goals)-1 {
			clause = append(clause, compCell(",", 2))
		}
		clause = append(clause, g.cells(numbers)...)
	}
	if len(u.goals) == 0 {
		clause = append(clause, atomCell("true"))
	}
	return clause, u.fault
}

// refKey is the key of a clause, or nothing.
func refKey(clause []impl.Cell) string {
	head := argTerms(clause)[0]
	if head[0].Kind != impl.TermComp || argTerms(head)[0][0].Kind == impl.TermVar {
		return ""
	}
	return refCell(argTerms(head)[0][0])
}

// refChains are, for each chain of a predicate in order, the indexes of its clauses; and the keys.
func refChains(q impl.Pred, indexed bool) (chains [][]int, keys []string, isSwitched bool) {
	if q.Dynamic {
		return nil, nil, false
	}
	chainOf := func(holds func(key string) bool) {
		chain := []int{}
		for i, clause := range q.Clauses {
			if holds(refKey(clause)) {
				chain = append(chain, i)
			}
		}
		chains = append(chains, chain)
	}
	chainOf(func(string) bool { return true })
	if !indexed || len(q.Clauses) < 2 || q.Arity == 0 {
		return chains, nil, false
	}
	for _, clause := range q.Clauses {
		if key := refKey(clause); key != "" && !slices.Contains(keys, key) {
			keys = append(keys, key)
		}
	}
	for _, key := range keys {
		chainOf(func(k string) bool { return k == key || k == "" })
	}
	chainOf(func(k string) bool { return k == "" })
	return chains, keys, true
}

// refPredicate is a second reading of 9.2 for a predicate that begins at an address: all sizes are known ahead.
func refPredicate(q impl.Pred, indexed bool, begin int) ([]impl.Ins, impl.Proc) {
	chains, keys, isSwitched := refChains(q, indexed)
	at := begin
	if isSwitched {
		at++
	}
	starts := make([]int, len(chains))
	for i, chain := range chains {
		if len(chain) > 1 {
			starts[i] = at
			at += len(chain)
		}
	}
	proc := impl.Proc{Name: q.Name, Arity: q.Arity, Dynamic: q.Dynamic}
	var code []impl.Ins
	for _, clause := range q.Clauses {
		ins, _ := refCompile(clause)
		proc.Clauses = append(proc.Clauses, at+len(code))
		code = append(code, ins...)
	}
	var ahead []impl.Ins
	for i, chain := range chains {
		if len(chain) == 1 {
			starts[i] = proc.Clauses[chain[0]]
			continue
		}
		for k, clause := range chain {
			word := "retry"
			if k == 0 {
				word = "try"
			} else if k == len(chain)-1 {
				word = "trust"
			}
			ahead = append(ahead, insOf(fmt.Sprintf("%s a%d", word, proc.Clauses[clause])))
		}
	}
	switch {
	case isSwitched:
		s := impl.Ins{Op: impl.InsSwitch, A: starts[0], R: starts[len(starts)-1], L: starts[1 : len(starts)-1]}
		for _, key := range keys {
			s.K = append(s.K, cellOf(key))
		}
		ahead, proc.At = slices.Insert(ahead, 0, s), begin
	case !q.Dynamic:
		proc.At = starts[0]
	}
	return append(ahead, code...), proc
}

func refLink(p impl.Program, indexed bool) impl.Code {
	out := impl.Code{Ins: codeOf("fail, stop, uncatch")}
	for _, q := range p.Preds {
		ins, proc := refPredicate(q, indexed, len(out.Ins))
		out.Ins, out.Procs = append(out.Ins, ins...), append(out.Procs, proc)
	}
	return out
}

// wantLinkedAsReference asks also that each clause's code is CompileClause's, at its address.
func wantLinkedAsReference(t *testing.T, p impl.Program) {
	t.Helper()
	for _, indexed := range []bool{false, true} {
		want := refLink(p, indexed)
		if len(want.Ins) > impl.MaxCode {
			wantNotLinked(t, "too much code", p, impl.CodeLimit)
			return
		}
		got := linked(t, showProgram(p), p, indexed)
		if showCode(got) != showCode(want) {
			t.Errorf("%s, indexed %v:\n got\n%s\nwant\n%s", showProgram(p), indexed, showCode(got), showCode(want))
		}
		for i, q := range p.Preds {
			for k, clause := range q.Clauses {
				ins, _ := impl.CompileClause(clause)
				at := got.Procs[i].Clauses[k]
				if showIns(got.Ins[at:at+len(ins)]) != showIns(ins) {
					t.Errorf("%s, indexed %v: clause %d of predicate %d", showProgram(p), indexed, k, i)
				}
			}
		}
		if lines := strings.Count(string(impl.ListCode(impl.DefaultOps(), got)), "\n"); lines != len(got.Ins) {
			t.Errorf("%s: %d lines, %d instructions", showProgram(p), lines, len(got.Ins))
		}
	}
}

// canBeCompiled leaves out clauses that need too many registers.
func canBeCompiled(clause []impl.Cell) bool {
	if !impl.ValidTerm(clause) {
		return false
	}
	_, code := refCompile(clause)
	return code == impl.CodeOK
}

func TestLinkReference(t *testing.T) {
	d := dice(92)
	for range 400 {
		var p impl.Program
		for i := range d.below(5) {
			q := impl.Pred{Name: []byte(fmt.Sprint("p", i%3)), Arity: i/3 + d.below(2)*2, Dynamic: d.below(5) == 0}
			for range d.below(7) {
				if clause := mixedFlat(&d, string(q.Name), q.Arity); canBeCompiled(clause) {
					q.Clauses = append(q.Clauses, clause)
				}
			}
			p.Preds = append(p.Preds, q)
		}
		wantLinkedAsReference(t, p)
	}
}

// TestLinkKeysInEveryOrder takes all short rows of first arguments.
func TestLinkKeysInEveryOrder(t *testing.T) {
	clauses := goalTerms("p(a,X0) :- X0 = b", "p(X0,a) :- true", "p(f(X0),X1) :- q(X1)", "p(1,X0) :- true")
	for n := range 6 {
		rows := 1
		for range n {
			rows *= len(clauses)
		}
		for row := range rows {
			q := pred("p", 2)
			for range n {
				q.Clauses = append(q.Clauses, clauses[row%len(clauses)])
				row /= len(clauses)
			}
			wantLinkedAsReference(t, programWith(q))
		}
	}
}

// Every clause of a lowered program can be compiled, as far as the registers go, and linked.
func TestLoweredProgramsCanBeLinked(t *testing.T) {
	d := dice(93)
	linkedPrograms := 0
	for range 1000 {
		p, code, _ := impl.BuildProgram(mixedProgram(&d, 4))
		if code != impl.CodeOK {
			continue
		}
		low, code := impl.LowerProgram(p)
		if code != impl.CodeOK {
			t.Fatalf("%s: %d", showProgram(p), code)
		}
		fits := true
		for _, q := range low.Preds {
			for _, clause := range q.Clauses {
				want, wantCode := refCompile(clause)
				got, code := impl.CompileClause(clause)
				if code != wantCode || showIns(got) != showIns(want) {
					t.Errorf("%s:\n got %d\n%s\nwant %d\n%s", showCells(clause), code, showIns(got), wantCode, showIns(want))
				}
				fits = fits && code == impl.CodeOK
			}
		}
		if fits {
			linkedPrograms++
			wantLinkedAsReference(t, low)
		}
	}
	if linkedPrograms < 500 {
		t.Errorf("only %d programs", linkedPrograms)
	}
}
