package tests

import (
	"maps"
	"slices"
	"strings"
	"testing"

	"loop.example/s00095/impl"
)

// solveGoal is a goal with its barrier; or, with a word that is not empty, what is done without being a goal: to cut down to
// the barrier, or to have so many catches.
type solveGoal struct {
	word    string
	term    []impl.Cell
	barrier int
}

// solveCatch is a catch with how many choice points there were before it.
type solveCatch struct {
	before   solveState
	choices  int
	ball     []impl.Cell
	recovery []impl.Cell
}

// solveState is all that failing brings back. None of its lists and maps is written into.
type solveState struct {
	goals   []solveGoal
	catches []solveCatch
	bound   map[int][]impl.Cell
}

type solveChoice struct {
	before solveState
	left   []func() bool
}

type solveClause struct {
	term   []impl.Cell
	erased bool
}

type solvePred struct {
	dynamic bool
	clauses []*solveClause
}

// solveReading is a second reading of chapter 12, which puts in what variables stand for wherever a goal is taken, for runs
// that are far from the bounds of memory.
type solveReading struct {
	solveState
	most    int
	fuel    int
	preds   map[string]*solvePred
	choices []solveChoice
	vars    int
	told    impl.Outcome
}

func refSolve(p impl.Program, query []impl.Cell, most int, fuel int) (o impl.Outcome) {
	r := &solveReading{most: most, fuel: fuel, preds: map[string]*solvePred{}}
	for _, q := range p.Preds {
		own := &solvePred{dynamic: q.Dynamic}
		for _, clause := range q.Clauses {
			own.clauses = append(own.clauses, &solveClause{term: clause})
		}
		head := atomTerm(string(q.Name))
		if q.Arity > 0 {
			head = compTerm(string(q.Name), manyItems(q.Arity, atomTerm("x"))...)
		}
		r.preds[shape(head)] = own
	}
	defer func() {
		if stopped := recover(); stopped != nil {
			switch stopped := stopped.(type) {
			case callStop:
				r.told.Code = stopped.code
			case refBall:
				r.told.Code, r.told.Ball = impl.CodeError, impl.Renumber(stopped.term)
			default:
				panic(stopped)
			}
		}
		r.told.Cells = r.vars
		o = r.told
	}()
	query = r.fresh(query)
	stopIf(most == 0, impl.CodeMore)
	r.front(solveGoal{term: compTerm("call", query)})
	r.loop(0, func() { r.answer(impl.TermVars(query)) })
	return r.told
}

// fresh is a term with new variables.
func (r *solveReading) fresh(x []impl.Cell) []impl.Cell {
	made := shifted(impl.Renumber(x), r.vars)
	r.vars += len(impl.TermVars(x))
	return made
}

func (r *solveReading) answer(asked []int) {
	var all [][]impl.Cell
	for _, v := range asked {
		all = append(all, r.whole(varTerm(v)))
	}
	a := impl.Answer{At: len(r.told.Out)}
	if len(all) > 0 {
		a.Terms = argTerms(impl.Renumber(compTerm("t", all...)))
	}
	r.told.Answers = append(r.told.Answers, a)
	stopIf(len(r.told.Answers) == r.most, impl.CodeMore)
}

// loop goes on until it fails with no more than so many choice points.
func (r *solveReading) loop(base int, answer func()) {
	for {
		holds := false
		if len(r.goals) == 0 {
			answer()
		} else {
			holds = r.take(r.goals[0])
		}
		for !holds {
			if len(r.choices) == base {
				return
			}
			holds = r.back()
		}
	}
}

func (r *solveReading) front(goals ...solveGoal) {
	r.goals = slices.Concat(goals, r.goals)
}

func (r *solveReading) choose(left ...func() bool) {
	r.choices = append(r.choices, solveChoice{before: r.solveState, left: left})
	r.told.Choices = max(r.told.Choices, len(r.choices))
}

func (r *solveReading) cut(left int) {
	r.choices = r.choices[:min(left, len(r.choices))]
}

func (r *solveReading) back() bool {
	last := &r.choices[len(r.choices)-1]
	r.solveState = last.before
	try := last.left[0]
	last.left = last.left[1:]
	if len(last.left) == 0 {
		r.cut(len(r.choices) - 1)
	}
	return try()
}

func (r *solveReading) alternatives(all []func() bool) bool {
	if len(all) == 0 {
		return false
	}
	r.choose(all...)
	return r.back()
}

func (r *solveReading) whole(x []impl.Cell) []impl.Cell {
	var made []impl.Cell
	for _, c := range x {
		if to, isBound := r.bound[c.N]; c.Kind == impl.TermVar && isBound {
			made = append(made, r.whole(to)...)
		} else {
			made = append(made, c)
		}
	}
	return made
}

func (r *solveReading) unify(a []impl.Cell, b []impl.Cell) bool {
	sub, code := impl.Unify(r.whole(a), r.whole(b))
	stopIf(code == impl.CodeCyclic || code == impl.CodeLimit, code)
	if code != impl.CodeOK {
		return false
	}
	bound := maps.Clone(r.bound)
	if bound == nil {
		bound = map[int][]impl.Cell{}
	}
	for _, s := range sub {
		bound[s.Var] = s.Term
	}
	r.bound = bound
	return true
}

func (r *solveReading) take(g solveGoal) bool {
	r.goals = r.goals[1:]
	switch g.word {
	case "cut":
		r.cut(g.barrier)
		return true
	case "leave":
		r.catches = r.catches[:g.barrier]
		return true
	}
	stopIf(r.told.Steps == r.fuel, impl.CodeFuel)
	r.told.Steps++
	same := func(x []impl.Cell) solveGoal { return solveGoal{term: x, barrier: g.barrier} }
	args, before := argTerms(g.term), len(r.choices)
	condition := func(x []impl.Cell, then []impl.Cell) {
		r.front(solveGoal{term: x, barrier: len(r.choices)}, solveGoal{word: "cut", barrier: before}, same(then))
	}
	switch shape(g.term) {
	case ",/2":
		r.front(same(args[0]), same(args[1]))
	case "!/0":
		r.cut(g.barrier)
	case ";/2":
		r.choose(func() bool { r.front(same(args[1])); return true })
		if shape(args[0]) == "->/2" {
			condition(argTerms(args[0])[0], argTerms(args[0])[1])
		} else {
			r.front(same(args[0]))
		}
	case "->/2":
		condition(args[0], args[1])
	case `\+/1`:
		r.choose(func() bool { return true })
		condition(args[0], atomTerm("fail"))
	default:
		return r.invoke(shape(g.term), args, g.term)
	}
	return true
}

func (r *solveReading) invoke(name string, args [][]impl.Cell, goal []impl.Cell) bool {
	if q := r.preds[name]; q != nil {
		return r.clauses(q, args)
	}
	for i, arg := range args {
		args[i] = r.whole(arg)
	}
	if impl.IsBuiltin(goal[0].Text, len(args)) {
		return r.builtin(goal, args)
	}
	switch name {
	case "call/1", "call/2", "call/3", "call/4", "call/5", "call/6", "call/7", "call/8":
		return r.call(name, args)
	case "catch/3":
		c := solveCatch{before: r.solveState, choices: len(r.choices), ball: args[1], recovery: args[2]}
		r.choose(func() bool { return false })
		r.front(solveGoal{term: compTerm("call", args[0])}, solveGoal{word: "leave", barrier: len(r.catches)})
		r.catches = append(slices.Clone(r.catches), c)
		return true
	case "throw/1":
		if args[0][0].Kind == impl.TermVar {
			return r.fault(name, atomTerm("instantiation_error"))
		}
		return r.throw(args[0])
	case "findall/3":
		return r.findall(args)
	case "between/3":
		return r.between(args)
	case "asserta/1", "assertz/1", "retract/1":
		return r.change(name, args[0])
	case "phrase/2":
		return r.phrase(append(args, atomTerm("[]")))
	case "phrase/3":
		return r.phrase(args)
	case "halt/0":
		panic(callStop{code: impl.CodeHalt})
	}
	return r.fault(name, compTerm("existence_error", atomTerm("procedure"), indicatorOf(name)))
}

func indicatorOf(name string) []impl.Cell {
	return (*refMachine)(nil).indicator(name)
}

func (r *solveReading) clauses(q *solvePred, args [][]impl.Cell) bool {
	barrier := len(r.choices)
	var all []func() bool
	for _, c := range q.clauses {
		if c.erased {
			continue
		}
		all = append(all, func() bool {
			own := argTerms(r.fresh(c.term))
			for i, param := range argTerms(own[0]) {
				if !r.unify(args[i], param) {
					return false
				}
			}
			r.front(solveGoal{term: own[1], barrier: barrier})
			return true
		})
	}
	return r.alternatives(all)
}

func (r *solveReading) builtin(goal []impl.Cell, args [][]impl.Cell) bool {
	e, code := impl.Builtin(impl.DefaultOps(), goal[0].Text, args, r.vars)
	switch code {
	case impl.CodeFail:
		return false
	case impl.CodeError:
		return r.throw(e.Error)
	}
	stopIf(code != impl.CodeOK, code)
	r.told.Out = append(r.told.Out, e.Out...)
	for _, x := range slices.Concat(e.Left, e.Right) {
		for _, v := range impl.TermVars(x) {
			r.vars = max(r.vars, v+1)
		}
	}
	for i := range e.Left {
		if !r.unify(e.Left[i], e.Right[i]) {
			return false
		}
	}
	return true
}

func (r *solveReading) fault(name string, f []impl.Cell) bool {
	return r.throw(compTerm("error", f, indicatorOf(name)))
}

func (r *solveReading) throw(ball []impl.Cell) bool {
	for len(r.catches) > 0 {
		c := r.catches[len(r.catches)-1]
		r.cut(c.choices)
		r.solveState = c.before
		if r.unify(r.fresh(ball), c.ball) {
			r.front(solveGoal{term: compTerm("call", c.recovery)})
			return true
		}
		r.solveState = c.before
	}
	panic(refBall{term: ball})
}

func (r *solveReading) call(name string, all [][]impl.Cell) bool {
	first := all[0]
	switch first[0].Kind {
	case impl.TermVar:
		return r.fault(name, atomTerm("instantiation_error"))
	case impl.TermInt:
		return r.fault(name, compTerm("type_error", atomTerm("callable"), first))
	}
	args := append(argTerms(first), all[1:]...)
	if len(args) > impl.MaxArity {
		return r.fault(name, compTerm("representation_error", atomTerm("max_arity")))
	}
	whole := atomTerm(string(first[0].Text))
	if len(args) > 0 {
		whole = compTerm(string(first[0].Text), args...)
	}
	if slices.Contains([]string{",/2", ";/2", "->/2", `\+/1`, "once/1", "forall/2", "!/0"}, shape(whole)) || strings.HasPrefix(shape(whole), "$") {
		body, code := refMade(func() []impl.Cell { return refNormal(whole) })
		if code == impl.CodeFail {
			return r.fault(name, compTerm("type_error", atomTerm("callable"), whole))
		}
		stopIf(code != impl.CodeOK, code)
		whole = body
	}
	r.front(solveGoal{term: whole, barrier: len(r.choices)})
	return true
}

func (r *solveReading) findall(args [][]impl.Cell) bool {
	before, choices := r.solveState, len(r.choices)
	var taken [][]impl.Cell
	ball := r.within(args, &taken)
	r.solveState = before
	r.cut(choices)
	if ball != nil {
		return r.throw(ball)
	}
	var items [][]impl.Cell
	for _, x := range taken {
		items = append(items, r.fresh(x))
	}
	return r.unify(listEnding(atomTerm("[]"), items...), args[2])
}

// within is a run within this one; it answers the ball that left it.
func (r *solveReading) within(args [][]impl.Cell, taken *[][]impl.Cell) (ball []impl.Cell) {
	defer func() {
		if stopped := recover(); stopped != nil {
			thrown, isBall := stopped.(refBall)
			if !isBall {
				panic(stopped)
			}
			ball = thrown.term
		}
	}()
	r.goals, r.catches = []solveGoal{{term: compTerm("call", args[1])}}, nil
	r.loop(len(r.choices), func() { *taken = append(*taken, r.whole(args[0])) })
	return nil
}

func (r *solveReading) between(args [][]impl.Cell) bool {
	for i, x := range args {
		switch {
		case x[0].Kind == impl.TermVar && i < 2:
			return r.fault("between/3", atomTerm("instantiation_error"))
		case x[0].Kind != impl.TermVar && x[0].Kind != impl.TermInt:
			return r.fault("between/3", compTerm("type_error", atomTerm("integer"), x))
		}
	}
	low, high, value := args[0][0].N, args[1][0].N, args[2][0]
	if value.Kind == impl.TermInt {
		return low <= value.N && value.N <= high
	}
	var all []func() bool
	for n := low; n <= high; n++ {
		all = append(all, func() bool { return r.unify(args[2], intTerm(n)) })
	}
	return r.alternatives(all)
}

func (r *solveReading) change(name string, clause []impl.Cell) bool {
	head, body := clause, atomTerm("true")
	if shape(clause) == ":-/2" {
		head, body = argTerms(clause)[0], argTerms(clause)[1]
	}
	switch shape(head) {
	case "variable":
		return r.fault(name, atomTerm("instantiation_error"))
	case "number":
		return r.fault(name, compTerm("type_error", atomTerm("callable"), head))
	}
	normal, code := refMade(func() []impl.Cell { return refNormal(body) })
	if name != "retract/1" && code == impl.CodeFail {
		return r.fault(name, compTerm("type_error", atomTerm("callable"), body))
	}
	q := r.preds[shape(head)]
	if impl.IsReserved(head[0].Text, len(argTerms(head))) || q != nil && !q.dynamic {
		return r.fault(name, compTerm("permission_error", atomTerm("modify"), atomTerm("static_procedure"), indicatorOf(shape(head))))
	}
	if name == "retract/1" {
		return q != nil && r.retract(q, head, body)
	}
	whole := compTerm(":-", head, normal)
	stopIf(code != impl.CodeOK || len(whole) > impl.MaxCells, impl.CodeLimit)
	if q == nil {
		q = &solvePred{dynamic: true}
		r.preds[shape(head)] = q
	}
	made := &solveClause{term: impl.Renumber(whole)}
	if name == "asserta/1" {
		q.clauses = append([]*solveClause{made}, q.clauses...)
	} else {
		q.clauses = append(slices.Clone(q.clauses), made)
	}
	return true
}

func (r *solveReading) retract(q *solvePred, head []impl.Cell, body []impl.Cell) bool {
	var all []func() bool
	for _, c := range q.clauses {
		if c.erased {
			continue
		}
		all = append(all, func() bool {
			if c.erased {
				return false
			}
			own := argTerms(r.fresh(c.term))
			if !r.unify(own[0], head) || !r.unify(own[1], body) {
				return false
			}
			c.erased = true
			return true
		})
	}
	return r.alternatives(all)
}

func (r *solveReading) phrase(args [][]impl.Cell) bool {
	if args[0][0].Kind == impl.TermVar {
		return r.fault("phrase/3", atomTerm("instantiation_error"))
	}
	g := refGrammar{next: r.vars}
	goal, code := refMade(func() []impl.Cell { return g.translate(args[0], args[1], args[2]) })
	if code == impl.CodeFail {
		return r.fault("phrase/3", compTerm("type_error", atomTerm("callable"), args[0]))
	}
	stopIf(code != impl.CodeOK, code)
	r.vars = g.next
	r.front(solveGoal{term: compTerm("call", goal)})
	return true
}

// wantAsRefSolve asks for all that an outcome holds, and answers it.
func wantAsRefSolve(t *testing.T, p impl.Program, query string, most int, fuel int) impl.Outcome {
	t.Helper()
	want := refSolve(p, clauseTerm(query), most, fuel)
	got := impl.Solve(impl.DefaultOps(), p, clauseTerm(query), most, fuel)
	if showOutcome(got) != showOutcome(want) {
		t.Errorf("%s ?- %s, %d answers, %d steps:\n got %.1500s\nwant %.1500s", impl.ShowProgram(impl.DefaultOps(), p), query, most, fuel, showOutcome(got), showOutcome(want))
	}
	return got
}

func TestSolveReference(t *testing.T) {
	t.Parallel()
	d := dice(121)
	codes := map[int]int{}
	p := built(t, machineFacts)
	for range 6000 {
		o := wantAsRefSolve(t, p, mixedGoalText(&d, 2+d.below(4)), d.below(6), d.below(300))
		codes[o.Code]++
		if t.Failed() {
			return
		}
	}
	wantOften(t, codes, impl.CodeOK, impl.CodeError, impl.CodeMore, impl.CodeFuel, impl.CodeHalt, impl.CodeCyclic)
}

func TestSolveReferencePrograms(t *testing.T) {
	t.Parallel()
	d := dice(122)
	codes := map[int]int{}
	for range 600 {
		p := built(t, mixedClauses(&d))
		for _, query := range []string{"p(X, Y)", "p(f(Z), X)", "p(a, 1)", "p(1, Y), w(X)", "w(f(X)), p(X, Y)", "v(X, Y, Z)", "findall(X - Y, p(X, Y), L)"} {
			o := wantAsRefSolve(t, p, query, 1+d.below(6), d.below(200))
			codes[o.Code]++
		}
		if t.Failed() {
			return
		}
	}
	wantOften(t, codes, impl.CodeOK, impl.CodeError, impl.CodeMore, impl.CodeFuel)
}

// mixedEquations bind variables to terms that have others of them, so that many of them stand in each other.
func mixedEquations(d *dice) string {
	v := func() string { return []string{"A", "B", "C", "D", "E", "F", "G"}[d.below(7)] }
	var term func(depth int) string
	term = func(depth int) string {
		switch {
		case depth == 0 || d.below(3) == 0:
			return []string{v(), v(), v(), "a", "1"}[d.below(5)]
		case d.below(2) == 0:
			return "f(" + term(depth-1) + ")"
		}
		return "g(" + term(depth-1) + ", " + term(depth-1) + ")"
	}
	return manyOf(2+d.below(6), ", ", func(int) string {
		switch d.below(6) {
		case 0:
			return "two(" + term(2) + ", " + v() + ")"
		case 1:
			return "same(" + v() + ", " + term(2) + ")"
		case 2:
			return "(" + v() + " = " + term(2) + " ; " + v() + " = " + term(1) + ")"
		}
		return v() + " = " + term(3)
	})
}

func TestSolveReferenceEquations(t *testing.T) {
	t.Parallel()
	d := dice(125)
	p := built(t, "two(f(X), g(X, Y)) :- Y = h(X). two(X, g(Z, X)). two(g(X, X), f(Y)) :- X = Y. same(X, X). same(f(X), X).")
	codes := map[int]int{}
	for range 4000 {
		query := mixedEquations(&d)
		codes[wantAsRefSolve(t, p, query, impl.MaxAnswers, 300).Code]++
		wantSameMachine(t, p, query, impl.MaxAnswers, 1000)
		if t.Failed() {
			return
		}
	}
	wantOften(t, codes, impl.CodeOK, impl.CodeCyclic)
}
