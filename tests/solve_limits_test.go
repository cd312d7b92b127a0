package tests

import (
	"fmt"
	"strings"
	"testing"

	"loop.example/s00095/impl"
)

func TestSolveMaxOutput(t *testing.T) {
	for query, want := range outputRuns() {
		o := solvedAll(t, "", query)
		if got := fmt.Sprintf("%s %d", codeWords[o.Code], len(o.Out)); got != want {
			t.Errorf("%s: %s, want %s", query, got, want)
		}
	}
}

// chainFacts leave so many choice points, one each, and then call a goal. The condition has one more, for a moment.
const chainFacts = `
q(1). q(2).
:- dynamic one/1, none/0.
one(1). single(1).
chain(N, G) :- (N =:= 0 -> call(G) ; M is N - 1, q(_), chain(M, G)).
`

func TestSolveMaxChoices(t *testing.T) {
	with := func(n int, goal string) impl.Outcome {
		return solved(t, chainFacts, fmt.Sprintf("chain(%d, (q(_), %s, halt))", n, goal), 1, impl.MaxFuel)
	}
	for _, goal := range []string{
		"q(_)", "q(2)", "single(_)", "one(_)", "between(1, 1, _)", "between(1, 2, _)", "retract(one(_))", "catch(true, _, true)", "catch(throw(a), a, true)",
		"(true ; true)", "(fail ; true)", "\\+ fail", "(fail -> true ; true)", "(true -> true ; true)", "findall(x, q(_), _)", "findall(x, \\+ fail, _)", "forall(fail, true)",
	} {
		less, more := with(impl.MaxChoices-2, goal), with(impl.MaxChoices-1, goal)
		if less.Code != impl.CodeHalt || less.Choices != impl.MaxChoices {
			t.Errorf("%s: %s with %d", goal, told(less), less.Choices)
		}
		if more.Code != impl.CodeMemory || more.Choices != impl.MaxChoices+1 {
			t.Errorf("%s, one more: %s with %d", goal, told(more), more.Choices)
		}
	}
	for _, goal := range []string{"true", "(true -> true)", "once(true)", "!", "call(true)", "between(1, 2, 1)", "findall(x, true, _)", "X = 1", "phrase([], _)"} {
		if o := with(impl.MaxChoices-1, goal); o.Code != impl.CodeHalt || o.Choices != impl.MaxChoices {
			t.Errorf("%s: %s with %d", goal, told(o), o.Choices)
		}
	}
	if o := solved(t, chainFacts, "chain(1000, true)", 1, impl.MaxFuel); o.Code != impl.CodeMemory || o.Choices != impl.MaxChoices+1 {
		t.Errorf("the condition: %s with %d", told(o), o.Choices)
	}
}

func TestSolveMaxNest(t *testing.T) {
	with := func(n int, goal string) impl.Outcome {
		return solved(t, manyFacts, fmt.Sprintf("nest(%d, %s)", n, goal), 1, impl.MaxFuel)
	}
	wantRunEdge(t, "runs within each other", with(impl.MaxNest, "true"), with(impl.MaxNest+1, "true"), impl.CodeMemory)
	wantRunEdge(t, "a further one", with(impl.MaxNest-1, "findall(x, true, L)"), with(impl.MaxNest, "findall(x, true, L)"), impl.CodeMemory)
	wantRunEdge(t, "one that comes to nothing", with(impl.MaxNest-1, "findall(x, fail, L)"), with(impl.MaxNest, "findall(x, fail, L)"), impl.CodeMemory)
	if o := solvedAll(t, manyFacts, "between(1, 50, X), findall(Y, q(Y), L), X >= 50"); told(o) != "50 _0 [1,2] | no" {
		t.Error(told(o))
	}
	if o := solvedAll(t, manyFacts, "between(1, 50, X), catch(findall(Y, throw(a), L), a, true), X >= 50"); told(o) != "50 _0 _1 | no" {
		t.Error(told(o))
	}
}

// variableFacts are what goals that make variables call.
const variableFacts = `
q(1). q(2).
:- dynamic two/2.
two(_, _).
get(f(_, _, _)).
other(f(_, _, _)).
other(_).
body(X) :- X = f(_, _).
`

// variableProgram has a clause of 950 variables, which are made though its head does not hold.
func variableProgram() string {
	return variableFacts + "cyc(X, f(X)). fill(x, [" + manyOf(950, ", ", func(int) string { return "_" }) + "])."
}

// withVariables is the outcome of a goal when there are some 199500 variables, and so many more.
func withVariables(t *testing.T, more int, goal string) impl.Outcome {
	t.Helper()
	return solved(t, variableProgram(), fmt.Sprintf("between(1, 210, I), \\+ fill(y, _), I >= 210, length(_, %d), %s", more, goal), 1, impl.MaxFuel)
}

// The goals make so many variables at once, and no more behind them.
func TestSolveMaxVars(t *testing.T) {
	t.Parallel()
	for goal, size := range map[string]int{
		"get(Z)": 3, "other(f(1, 2, 3))": 3, "body(Z)": 3, "functor(Z, f, 20)": 20, "length(Z, 4)": 4, "length([a|Z], 4)": 3, "copy_term(f(A, B, A), Z)": 2,
		"findall(A - B, q(_), Z)": 4, "findall(f(A, A, B, C), true, Z)": 3, "catch(throw(f(A, b, A)), Z, true)": 1, "catch(throw(f(A, B)), f(Z, Z), true)": 2,
		"phrase(([a], [b], [c]), Z)": 2, "phrase((\\+ [a] ; []), Z, Y)": 1, "retract(two(Z, 1))": 2, "retract((two(Z, 1) :- Y))": 2,
	} {
		missing := impl.MaxVars - withVariables(t, 0, goal).Cells
		if o := withVariables(t, missing, goal); o.Code != impl.CodeMore || len(o.Answers) != 1 || o.Cells != impl.MaxVars {
			t.Errorf("%s: %.300s with %d", goal, told(o), o.Cells)
		}
		for more := 1; more <= size; more++ {
			if o := withVariables(t, missing+more, goal); o.Code != impl.CodeMemory || len(o.Answers) != 0 || o.Cells != impl.MaxVars+more {
				t.Errorf("%s, %d more: %.300s with %d", goal, more, told(o), o.Cells)
			}
		}
		// With one more there is no room ahead of the goal.
		if o := withVariables(t, missing+size+1, goal); o.Code != impl.CodeMemory || o.Cells != impl.MaxVars+1 {
			t.Errorf("%s, no room ahead: %.300s with %d", goal, told(o), o.Cells)
		}
	}
	missing := impl.MaxVars - withVariables(t, 0, "true").Cells
	for _, goal := range []string{"true", "X = f(Y)", "findall(x, q(_), X)", "catch(throw(a), X, true)", "phrase([a], X)", "assertz(p(X, Y))", "between(1, 2, X)", "call((X = 1, Y = 2))", "\\+ X = Y"} {
		if o := withVariables(t, missing-len(impl.TermVars(clauseTerm(goal))), goal+", halt"); told(o) != "halt" && told(o) != "no" {
			t.Errorf("%s: %s with %d", goal, told(o), o.Cells)
		}
	}
}

// Variables are looked at before anything is unified with what has them.
func TestSolveMaxVarsAheadOfUnifying(t *testing.T) {
	for _, goal := range []string{"cyc(A, A)", "copy_term(f(A), g(B))", "catch(throw(f(A, A)), f(B, g(B)), true)", "findall(A - f(A), true, [B - B])", "retract(two(Z, f(Z)))"} {
		missing := impl.MaxVars - withVariables(t, 0, goal).Cells
		less, more := withVariables(t, missing, goal), withVariables(t, missing+1, goal)
		if less.Code == impl.CodeMemory || less.Cells != impl.MaxVars {
			t.Errorf("%s: %s with %d", goal, told(less), less.Cells)
		}
		if more.Code != impl.CodeMemory || more.Cells != impl.MaxVars+1 {
			t.Errorf("%s: %s with %d", goal, told(more), more.Cells)
		}
	}
}

// A term of MaxPairs pairs is unified with itself, pair by pair: h of g of twenty lists of 999 cells and of another.
func TestSolveMaxPairs(t *testing.T) {
	deep := func(n int) string { return strings.Repeat("f(", n-1) + "a" + strings.Repeat(")", n-1) }
	made := "length(B, 499), A = g(" + manyOf(20, ", ", func(int) string { return "B" }) + "), "
	for _, goal := range []string{"X = h(A, %[1]s), X = h(A, %[1]s)", "same(h(A, %[1]s), h(A, %[1]s), h(A, %[1]s))", "X = h(A, %[1]s), call(=, X, h(A, %[1]s))"} {
		with := func(cells int) impl.Outcome {
			// The answers are too great, so that the run is stopped before.
			return solved(t, "same(X, X, X).", made+fmt.Sprintf(goal, deep(cells))+", halt", 1, impl.MaxFuel)
		}
		// 1 + (1 + 20 * 999) + 18 are MaxPairs.
		if less, more := with(18), with(19); less.Code != impl.CodeHalt || more.Code != impl.CodeLimit {
			t.Errorf("%s: %s, and with one more %s", goal, told(less), told(more))
		}
	}
	// What fails before is no limit.
	wantSolved(t, []runs{{"", made + "f(A, 1, A) = f(A, 2, A)", "no"}, {"", made + "f(1, A, A) = f(2, A, A)", "no"}, {"", made + "f(A, A, 1) = f(A, A, 2)", "limit"}})
}

// solvedGreat is the outcome of a goal whose last argument is a term of so many cells.
func solvedGreat(t *testing.T, cells int, goal string) impl.Outcome {
	t.Helper()
	const more = `
puts(T) :- assertz(fact(T)).
rule(T) :- asserta((fact(1) :- same(1, T))).
both(T) :- call((same(1, T), true)).
once1(T) :- once(same(1, T)).
called(T) :- call(once, same(1, T)).
all(T) :- call(forall(same(1, T), true)).
either(T) :- call((same(1, T) ; true)).
not(T) :- G = same(1, T), call((\+ \+ G)).
late(T) :- G = same(1, T), (true, G).
:- dynamic fact/1.
`
	return solved(t, greatProgram(cells)+more, "on("+goal+")", 1, impl.MaxFuel)
}

// A term that is needed whole has at most MaxCells cells; so have several that are needed all in one.
func TestSolveTermsTooGreat(t *testing.T) {
	t.Parallel()
	mayFail := map[string]bool{"takes": true, "ruled": true, "list": true, "rest": true}
	for goal, most := range map[string]int{
		"compound": 2000, "\\==(a)": 1999, "compare(_, a)": 1998, "thrown": 2000, "found": 1998, "twice": 998, "takes": 1999, "ruled": 1997,
		"length": 1994, "number": 1994, "high": 1994, "wrong": 1990, "first": 1990, "bad": 1990, "list": 1998, "rest": 1998,
		// :- of fact(T) and true, and of fact(1) and same(1, T)
		"puts": 1997, "rule": 1995,
		// , of same(1, T) and true; -> of the same; \+ of , of the same and \+ of true
		"both": 1996, "called": 1996, "either": 1996, "all": 1994,
		// \+ of \+ of call of same(1, T)
		"not": 1996,
	} {
		less, more := solvedGreat(t, most, goal), solvedGreat(t, most+1, goal)
		isDone := less.Code == impl.CodeMore && string(less.Out) == "done"
		if !isDone && (told(less) != "no" || !mayFail[goal]) {
			t.Errorf("%s of %d cells: %.100s", goal, most, told(less))
		}
		if more.Code != impl.CodeLimit || len(more.Out) > 0 || len(more.Answers) > 0 {
			t.Errorf("%s of %d cells: %.100s", goal, most+1, told(more))
		}
	}
	// No term is needed whole here: bodies are gone into as they stand in their clauses.
	for _, goal := range []string{"low", "same(1)", "once1", "late"} {
		if o := solvedGreat(t, 2001, goal); string(o.Out) != "done" {
			t.Errorf("%s: %.100s", goal, told(o))
		}
	}
	if o := solvedGreat(t, 2000, "throws"); o.Code != impl.CodeError || len(o.Ball) != 2000 {
		t.Errorf("a great ball: %.100s", told(o))
	}
}

func TestSolveAnswersTooGreat(t *testing.T) {
	less, more := solvedAll(t, "", "length(L, 500), length(M, 499)"), solvedAll(t, "", "length(L, 500), length(M, 500)")
	if less.Code != impl.CodeOK || len(less.Answers) != 1 || len(less.Answers[0].Terms[0])+len(less.Answers[0].Terms[1]) != impl.MaxCells {
		t.Errorf("%.100s", told(less))
	}
	if more.Code != impl.CodeLimit || len(more.Answers) != 0 {
		t.Errorf("%.100s", told(more))
	}
	o := solvedAll(t, "", "write(a), L = 1 ; write(b), length(L, 500), length(M, 500) ; write(c)")
	if o.Code != impl.CodeLimit || answersText(o.Answers) != "1 _0" || string(o.Out) != "ab" {
		t.Errorf("%.100s", told(o))
	}
}

func TestSolveFindallTooGreat(t *testing.T) {
	less, more := solvedAll(t, "", "findall(x, between(1, 999, _), _)"), solvedAll(t, "", "findall(x, (between(1, 2000, _), write(a)), _)")
	if less.Code != impl.CodeOK || len(less.Answers) != 1 {
		t.Errorf("%.100s", told(less))
	}
	if more.Code != impl.CodeLimit || len(more.Answers) != 0 || len(more.Out) != 1000 {
		t.Errorf("%.100s, %d bytes", told(more), len(more.Out))
	}
}

// solvedCells is the outcome of a query that is given by its cells.
func solvedCells(t *testing.T, query []impl.Cell) impl.Outcome {
	t.Helper()
	if !impl.ValidTerm(query) {
		t.Fatalf("%d cells", len(query))
	}
	return impl.Solve(impl.DefaultOps(), built(t, "p(_). q(_). nl2."), query, 1, impl.MaxFuel)
}

// The limits are those of normal bodies and of clauses that are put, not those of code.
func TestSolveCalledTooGreat(t *testing.T) {
	nl := atomTerm("nl2")
	wide := func(name string, n int) []impl.Cell { return compTerm(name, wideCells(n)) }
	both := func(n int) []impl.Cell {
		return compTerm(",", compTerm("forall", wide("p", 331), wide("q", 333)), compTerm("forall", wide("p", 333), wide("q", n)))
	}
	cases := []struct {
		what  string
		most  int
		steps int // that are taken where it is too great
		query func(n int) []impl.Cell
	}{
		{"a conjunction", 1997, 0, func(n int) []impl.Cell { return compTerm(",", wide("p", n), nl) }},
		{"the normal body of once", 1997, 1, func(n int) []impl.Cell { return compTerm("once", wide("p", n)) }},
		{"the normal body of forall", 995, 1, func(n int) []impl.Cell { return compTerm("forall", wide("p", n), wide("q", 1000)) }},
		{"a fact", 1997, 2, func(n int) []impl.Cell { return compTerm("assertz", wide("f", n)) }},
		{"the clause with its normal body", 990, 2, func(n int) []impl.Cell { return compTerm("asserta", compTerm(":-", atomTerm("h"), both(n))) }},
		{"the goal of a phrase", 997, 2, func(n int) []impl.Cell { return compTerm("phrase", parsed("[] ; []"), wideCells(n)) }},
	}
	for _, c := range cases {
		if o := solvedCells(t, c.query(c.most)); o.Code == impl.CodeLimit {
			t.Errorf("%s, %d: %.100s", c.what, c.most, told(o))
		}
		if c.steps == 0 {
			continue // No query is greater.
		}
		if o := solvedCells(t, c.query(c.most+1)); o.Code != impl.CodeLimit || o.Steps != c.steps {
			t.Errorf("%s, %d: %.100s, %d steps", c.what, c.most+1, told(o), o.Steps)
		}
	}
	// There are no registers that terms within each other could be too many for.
	deep := within(atomTerm("x"), "f", 900)
	for _, query := range [][]impl.Cell{compTerm(",", compTerm("p", deep), nl), compTerm("assertz", compTerm(":-", atomTerm("h"), compTerm("p", deep)))} {
		if o := solvedCells(t, query); told(o) != "yes | more" {
			t.Errorf("900 within each other: %.100s", told(o))
		}
	}
}

// The errors of a head or a body come ahead of the limits.
func TestSolveFaultsOfAssertAheadOfLimits(t *testing.T) {
	const facts = ":- dynamic d/1. p(1). "
	// The normal body has 3 n - 1 cells: 666 make a clause of MaxCells with z(1).
	for n, put := range map[int]string{1: "_0 | no", 666: "_0 | no", 667: "limit", 668: "limit", 900: "limit"} {
		body := goalsOf("X", n)
		wantSolved(t, []runs{
			{facts, "asserta((z(1) :- " + body + "))", put},
			{facts, "assertz((d(1) :- " + body + "))", put},
			{facts, "assertz((p(1) :- " + body + "))", "ball error(permission_error(modify,static_procedure,p/1),assertz/1)"},
			{facts, "assertz((true :- " + body + "))", "ball error(permission_error(modify,static_procedure,true/0),assertz/1)"},
			{facts, "assertz((Y :- " + body + "))", "ball error(instantiation_error,assertz/1)"},
			{facts, "assertz((3 :- " + body + "))", "ball error(type_error(callable,3),assertz/1)"},
		})
	}
}

// A run may make more predicates and clauses than a program may have, and there is no code that could be too long.
func TestSolveMoreThanPrograms(t *testing.T) {
	o := solvedAll(t, "", "between(1, 5000, X), assertz(p(X)), fail ; p(X), X > 4999")
	if told(o) != "5000 | no" {
		t.Error(told(o))
	}
	o = solvedAll(t, "", "between(1, 400, X), call((X = 1 ; X > 399)), write(X), fail")
	if told(o) != "no | 1400" {
		t.Error(told(o))
	}
	o = solvedAll(t, "", manyOf(impl.MaxPreds+1, ", ", func(int) string { return "\\+ fail" }))
	if told(o) != "yes | no" {
		t.Error(told(o))
	}
	many := func(n int) string { return manyOf(n, ", ", numbered("X%d = %[1]d")) }
	for _, n := range []int{20, 21, 40, 300} {
		for _, query := range []string{many(n), many(n) + ", !", "(" + many(n) + ", ! ; fail)", "call((" + many(n) + "))", "\\+ \\+ (" + many(n) + ")"} {
			if o := solvedAll(t, "", query); o.Code != impl.CodeOK || len(o.Answers) != 1 || len(o.Answers[0].Terms) != n {
				t.Errorf("%d variables: %.100s: %.300s", n, query, told(o))
			}
		}
		if o := solvedAll(t, "", "assertz((h :- "+many(n)+" ; fail)), h"); o.Code != impl.CodeOK || len(o.Answers) != 1 {
			t.Errorf("%d variables in a clause: %.300s", n, told(o))
		}
	}
}

// A variable that stands in others is looked for in a term whose parts are there twice, again and again, but once in each.
func TestSolveDoubledTerms(t *testing.T) {
	const doubles = "d(0, X, X). d(N, X, Z) :- N > 0, M is N - 1, d(M, f(X, X), Z). "
	wantSolved(t, []runs{
		{doubles, "d(200, A, X), Z = g(Y), Y = X, throw(done)", "ball done"},
		{doubles, "Z = g(A, Y), d(200, A, X), Y = X, throw(done)", "ball done"},
		{doubles, "Z = g(A, Y), d(200, Y, X), Y = X, throw(done)", "cyclic"},
		{doubles, "Z = g(A, Y), d(200, f(A, Y), X), A = X, throw(done)", "cyclic"},
		{doubles, "d(200, A, X), d(200, B, Y), X = Y", "limit"},
		{doubles, "d(200, A, X), write(X)", "limit"},
	})
}

// Terms may grow as far as the fuel goes: what is made of them costs no more than what is new in it.
func TestSolveGreatTerms(t *testing.T) {
	t.Parallel()
	deep := strings.Repeat("f(", 400) + "X" + strings.Repeat(")", 400)
	for _, program := range []string{
		"p(X) :- p([a|X]).", "p(X) :- Y = [a|X], p(Y).", "p(X) :- [_|X] = Y, p(Y).", "p(X) :- p(f(X, X)).", "p(X) :- X = [_|Y], p(Y).", "p([_|X]) :- p(X).",
		"p(X) :- X = Y, p(Y).", "p(X) :- p(" + deep + ").", "p(X) :- Y = " + deep + ", p(Y).", "p(X) :- catch(p(X), _, true), fail. p(X) :- p([X]).",
	} {
		o := solved(t, program, "p(_)", 1, impl.MaxFuel)
		if o.Code != impl.CodeFuel && o.Code != impl.CodeMemory {
			t.Errorf("%.100s: %.300s", program, told(o))
		}
	}
}
