package tests

import (
	"fmt"
	"slices"
	"strings"
	"testing"

	"loop.example/s00095/impl"
)

// manyFacts are for queries that come close to a limit: full leaves a choice point for each item of a list, and deep is
// so many environments deep when it calls its goal.
const manyFacts = `
q(1). q(2).
:- dynamic one/1, two/1.
one(1). two(1). two(2).
full([], G) :- call(G).
full([_|T], G) :- q(_), full(T, G).
deep(0, G) :- call(G).
deep(N, G) :- N > 0, M is N - 1, deep(M, G), true2.
nest(0, G) :- call(G).
nest(N, G) :- N > 0, M is N - 1, findall(x, nest(M, G), _).
env :- true2, true2.
true2.
get(f(_, _)).
put(_).
`

// outputRuns are queries with how they end and how many bytes they write then.
func outputRuns() map[string]string {
	hundred := strings.Repeat("a", 100)
	return map[string]string{
		"between(1, 40, _), write(" + hundred + "), fail":                                  "no 4000",
		"between(1, 41, _), write(" + hundred + "), fail":                                  "memory 4100",
		"between(1, 40, N), write(" + hundred + "), N > 39, nl":                            "memory 4001",
		"between(1, 39, _), write(" + hundred + "), fail ; tab(99), write(x)":              "no 4000",
		"between(1, 39, _), write(" + hundred + "), fail ; tab(99), write(xy)":             "memory 4001",
		"between(1, 39, _), write(" + hundred + "), fail ; tab(99), tab(500)":              "memory 4499",
		"between(1, 39, _), write(" + hundred + "), fail ; tab(99), writeq(f('A', [1|b]))": "memory 4011",
		"findall(x, (between(1, 41, _), write(" + hundred + ")), _)":                       "memory 4100",
	}
}

func TestMachineMaxOutput(t *testing.T) {
	for query, want := range outputRuns() {
		o := ranAll(t, "", query)
		if got := fmt.Sprintf("%s %d", codeWords[o.Code], len(o.Out)); got != want {
			t.Errorf("%s: %s, want %s", query, got, want)
		}
	}
}

// wantRunEdge asks that a run with less holds once, and that one with more ends with a code.
func wantRunEdge(t *testing.T, what string, less impl.Outcome, more impl.Outcome, code int) {
	t.Helper()
	if len(less.Answers) != 1 || less.Code != impl.CodeMore {
		t.Errorf("%.200s: %.300s", what, told(less))
	}
	if len(more.Answers) != 0 || more.Code != code {
		t.Errorf("%.200s, one more: %.300s, want %s", what, told(more), codeWords[code])
	}
}

func TestMachineMaxChoices(t *testing.T) {
	with := func(n int, goal string) impl.Outcome {
		return ran(t, manyFacts, fmt.Sprintf("length(A, 500), length(B, %d), findall(x, full(A, full(B, (%s))), _)", n, goal), 1, impl.MaxFuel, true)
	}
	// Within findall all answers are looked for, so that each goal ends the search for more.
	for _, goal := range []string{"q(_)", "one(_)", "two(_)", "between(1, 1, _)", "between(1, 2, _)", "retract(one(_))", "catch(true, _, true)", "(true ; true)", "\\+ fail", "(fail -> true ; true)"} {
		less, more := with(499, goal+", halt"), with(500, goal+", halt")
		if less.Code != impl.CodeHalt || less.Choices != impl.MaxChoices {
			t.Errorf("%s: %d with %d", goal, less.Code, less.Choices)
		}
		if more.Code != impl.CodeMemory || more.Choices != impl.MaxChoices+1 {
			t.Errorf("%s, one more: %d with %d", goal, more.Code, more.Choices)
		}
	}
	if o := with(500, "halt"); o.Code != impl.CodeHalt || o.Choices != impl.MaxChoices {
		t.Errorf("no more: %d with %d", o.Code, o.Choices)
	}
}

func TestMachineMaxDepth(t *testing.T) {
	with := func(n int, goal string) impl.Outcome {
		return ran(t, manyFacts, fmt.Sprintf("deep(%d, %s)", n, goal), 1, impl.MaxFuel, true)
	}
	wantRunEdge(t, "others below one", with(impl.MaxDepth+1, "true"), with(impl.MaxDepth+2, "true"), impl.CodeMemory)
	wantRunEdge(t, "a clause with one", with(impl.MaxDepth, "env"), with(impl.MaxDepth+1, "env"), impl.CodeMemory)
	wantRunEdge(t, "a catch", with(impl.MaxDepth, "catch(true, a, true)"), with(impl.MaxDepth+1, "catch(true, a, true)"), impl.CodeMemory)
	if o := with(impl.MaxDepth+1, "findall(x, env, [x])"); o.Code != impl.CodeMore {
		t.Errorf("a run within has no environment at first: %s", told(o))
	}
	if o := with(impl.MaxDepth+1, "findall(x, catch(env, a, true), [x])"); o.Code != impl.CodeMore {
		t.Errorf("a run within has no environment at first: %s", told(o))
	}
}

func TestMachineMaxNest(t *testing.T) {
	with := func(n int, goal string) impl.Outcome {
		return ran(t, manyFacts, fmt.Sprintf("nest(%d, %s)", n, goal), 1, impl.MaxFuel, true)
	}
	wantRunEdge(t, "runs within each other", with(impl.MaxNest, "true"), with(impl.MaxNest+1, "true"), impl.CodeMemory)
	wantRunEdge(t, "a further one", with(impl.MaxNest-1, "findall(x, true, L)"), with(impl.MaxNest, "findall(x, true, L)"), impl.CodeMemory)
	// It is looked at before the goal is.
	wantRunEdge(t, "one that comes to nothing", with(impl.MaxNest-1, "findall(x, fail, L)"), with(impl.MaxNest, "findall(x, fail, L)"), impl.CodeMemory)
	// Those behind each other are not within each other.
	if o := ranAll(t, manyFacts, "between(1, 50, X), findall(Y, q(Y), L), X >= 50"); told(o) != "50 _0 [1,2] | no" {
		t.Error(told(o))
	}
	if o := ranAll(t, manyFacts, "between(1, 50, X), catch(findall(Y, throw(a), L), a, true), X >= 50"); told(o) != "50 _0 _1 | no" {
		t.Error(told(o))
	}
}

// fillFacts put twenty cells on the heap for each number that fill counts down: sixteen and four for the next number.
const fillFacts = manyFacts + `
fill(0).
fill(N) :- N > 0, put(f(a, a, a, a, a, a, a, a, a, a, a, a, a, a, a)), M is N - 1, fill(M).
putvoid :- put(_).
putvar :- X == X, put(X).
putstruct :- put(g(a, _, _)).
nested :- put(g(h(1))).
`

// filled is the outcome of a goal on a heap that has 19600 cells and so many more.
func filled(t *testing.T, more int, goal string) impl.Outcome {
	t.Helper()
	pad := slices.Repeat([]string{"put(f(a, a, a, a, a, a, a, a, a, a, a, a, a, a, a))"}, more/16)
	pad = append(pad, slices.Repeat([]string{"put(_)"}, more%16)...)
	return ran(t, fillFacts+"pad :- "+strings.Join(append(pad, "true"), ", ")+".", "fill(980), pad, "+goal, 1, impl.MaxFuel, true)
}

// What is put there is put whole, and only then looked at. The goals put so many cells at once, and no more behind them.
func TestMachineMaxHeap(t *testing.T) {
	t.Parallel()
	for goal, size := range map[string]int{
		"putvoid": 1, "putvar": 1, "putstruct": 4, "nested": 2, "get(Z)": 3, "functor(Z, f, 20)": 21, "length(Z, 4)": 12, "copy_term(Y, Z)": 1,
		"findall(x, q(_), Z)": 6, "catch(throw(f(a, b)), Z, true)": 3, "phrase([], Z)": 3, "retract(one(Z))": 5, "phrase([a], Z, Y)": 6,
	} {
		missing := impl.MaxHeap - filled(t, 0, goal).Cells
		o := filled(t, missing, goal)
		if o.Code != impl.CodeMore || len(o.Answers) != 1 || o.Cells != impl.MaxHeap {
			t.Errorf("%s: %.300s with %d", goal, told(o), o.Cells)
		}
		for more := 1; more <= size; more++ {
			o := filled(t, missing+more, goal)
			if o.Code != impl.CodeMemory || len(o.Answers) != 0 || o.Cells != impl.MaxHeap+more {
				t.Errorf("%s, %d more: %.300s with %d", goal, more, told(o), o.Cells)
			}
		}
		// With one more there is no room ahead of the goal.
		if o := filled(t, missing+size+1, goal); o.Code != impl.CodeMemory || o.Cells <= impl.MaxHeap || o.Cells > impl.MaxHeap+16 {
			t.Errorf("%s, no room ahead: %.300s with %d", goal, told(o), o.Cells)
		}
	}
}

// Each variable that is bound has a cell, so that the trail is full when the heap is, and not before: here all cells are
// bound, one in four steps.
func TestMachineMaxTrail(t *testing.T) {
	o := ranAll(t, "r :- _ = a, r.", "r")
	if o.Code != impl.CodeMemory || o.Cells != impl.MaxHeap+1 || o.Steps != 4*impl.MaxHeap+1 {
		t.Error(showOutcome(o))
	}
}

// The heap is shorter again where the machine fails, but not what is told of it.
func TestMachineHeapIsGivenBack(t *testing.T) {
	o := ranAll(t, fillFacts, "between(1, 5, X), fill(400), X >= 5")
	if len(o.Answers) != 1 || o.Code != impl.CodeOK || o.Cells < 8000 || o.Cells > 9000 {
		t.Errorf("%s with %d", told(o), o.Cells)
	}
	o = ranAll(t, fillFacts, "findall(x, fill(400), A), findall(x, fill(400), B), findall(x, fill(400), C)")
	if len(o.Answers) != 1 || o.Code != impl.CodeOK || o.Cells < 8000 || o.Cells > 9000 {
		t.Errorf("%s with %d", told(o), o.Cells)
	}
	o = ranAll(t, fillFacts, "between(1, 5, X), catch((fill(400), throw(a)), a, true), X >= 5")
	if len(o.Answers) != 1 || o.Code != impl.CodeOK || o.Cells < 8000 || o.Cells > 9000 {
		t.Errorf("%s with %d", told(o), o.Cells)
	}
}

// codeSize is how many instructions there are in a run of a query that is a construct with the variables X and Y.
func codeSize(t *testing.T, query string, indexed bool) int {
	t.Helper()
	low, code := impl.LowerProgram(built(t, "goal(X, Y) :- "+query+"."))
	if code != impl.CodeOK {
		t.Fatalf("%s: %d", query, code)
	}
	return len(linked(t, query, low, indexed).Ins)
}

// What a run makes is linked as its program is: with switches, and chains for them, or without.
func TestMachineMaxCode(t *testing.T) {
	t.Parallel()
	fact := "p(" + manyOf(19, ", ", numbered("%d")) + ")"
	for goal, sizes := range map[string][2]int{
		"true":                          {0, 0}, // the facts come to MaxCode themselves
		"assertz(f(1, 2))":              {3, 3},
		"asserta((p :- a))":             {1, 1},
		"call((true, true))":            {1, 1},
		"call((nl, nl))":                {3, 3},
		"call(!)":                       {3, 3},
		"call((nl ; nl))":               {1 + 2 + 4, 1 + 2 + 4}, // no switch where there are no arguments
		"call((X = 1 ; X = 2))":         {3 + 2 + 2*5, 3 + 1 + 2*2 + 2*5},
		"call(\\+ fail)":                {1 + 2 + 5 + 1, 1 + 2 + 5 + 1},
		"assertz((p :- nl -> nl ; nl))": {1 + 2 + 5 + 2, 1 + 2 + 5 + 2},
		"assertz((p(X) :- X = 1 ; nl))": {3 + 2 + 5 + 2, 3 + 1 + 2*2 + 5 + 2},
	} {
		for i, indexed := range []bool{false, true} {
			query := func(twenties int, ones int) string {
				return fmt.Sprintf("(between(1, %d, X), assertz(%s), fail ; between(1, %d, Y), assertz(q), fail ; true), %s", twenties, fact, ones, goal)
			}
			left := impl.MaxCode - codeSize(t, query(0, 0), indexed) - sizes[i]
			with := func(ones int) impl.Outcome { return ran(t, "", query(left/20, ones), 1, impl.MaxFuel, indexed) }
			wantRunEdge(t, goal, with(left%20), with(left%20+1), impl.CodeMemory)
		}
	}
}

// wideCells is a term of so many cells with few compounds in it.
func wideCells(n int) []impl.Cell {
	if n == 1 {
		return atomTerm("x")
	}
	args := manyItems(min(impl.MaxArity, n-1)-1, atomTerm("x"))
	return compTerm("w", append(args, wideCells(n-1-len(args)))...)
}

// greatFacts take a term of the heap.
const greatFacts = manyFacts + `
same(_, _).
throws(T) :- throw(T).
thrown(T) :- catch(throw(T), _, true).
length(T) :- catch(atom_length(T, _), _, true).
found(T) :- findall(T, true, _).
twice(T) :- findall(T, q(_), _).
takes(T) :- retract(fact(T)).
ruled(T) :- retract((fact(T) :- true)).
number(T) :- catch(between(1, 2, T), _, true).
low(T) :- catch(between(a, T, T), _, true).
high(T) :- catch(between(1, T, a), _, true).
wrong(T) :- catch(call((same(1, T), 1)), _, true).
first(T) :- catch(asserta((d(1) :- same(1, T), 1)), _, true).
list(T) :- phrase([], T).
rest(T) :- phrase([], [], T).
bad(T) :- catch(phrase((same(1, T), 7), []), _, true).
more(T) :- phrase(([] ; []), T).
`

// greatProgram has the predicate on, which calls a goal with a term of so many cells, which no query could have, behind its
// arguments.
func greatProgram(cells int) string {
	// A list of n items has 2 n + 1 cells.
	made := fmt.Sprintf("sized(g(A, B)) :- length(A, 500), length(B, %d).", (cells-1003)/2)
	if cells%2 == 0 {
		made = fmt.Sprintf("sized(g(f(A), B)) :- length(A, 500), length(B, %d).", (cells-1004)/2)
	}
	if cells < 1000 {
		made = fmt.Sprintf("sized(%s) :- length(A, %d).", []string{"f(A)", "A"}[cells%2], (cells-1)/2)
	}
	return greatFacts + made + " on(G) :- sized(T), call(G, T), write(done)."
}

func great(t *testing.T, cells int, goal string) impl.Outcome {
	t.Helper()
	return ran(t, greatProgram(cells), "on("+goal+")", 1, impl.MaxFuel, true)
}

// A term that is taken from the heap has at most MaxCells cells; so have several that are taken all in one.
func TestMachineTermsTooGreat(t *testing.T) {
	for goal, most := range map[string]int{
		"compound": 2000, "\\==(a)": 1999, "compare(_, a)": 1998, "thrown": 2000, "found": 1998, "twice": 998, "takes": 1999, "ruled": 1997,
		// error(type_error(K, T), N/A) has six cells more than T, and four more where it is of (same(1, T), 1)
		"length": 1994, "number": 1994, "high": 1994, "wrong": 1990, "first": 1990, "bad": 1990, "list": 1998, "rest": 1998,
	} {
		less, more := great(t, most, goal), great(t, most+1, goal)
		if less.Code != impl.CodeOK && string(less.Out) != "done" {
			t.Errorf("%s of %d cells: %.100s", goal, most, told(less))
		}
		if more.Code != impl.CodeLimit || len(more.Out) > 0 || len(more.Answers) > 0 {
			t.Errorf("%s of %d cells: %.100s", goal, most+1, told(more))
		}
	}
	if o := great(t, 2001, "low"); string(o.Out) != "done" {
		t.Errorf("an argument that is not looked at: %.100s", told(o))
	}
	if o := great(t, 2001, "same(1)"); string(o.Out) != "done" {
		t.Errorf("no term is taken: %.100s", told(o))
	}
	if o := great(t, 2000, "throws"); o.Code != impl.CodeError || len(o.Ball) != 2000 {
		t.Errorf("a great ball: %.100s", told(o))
	}
}

func TestMachineAnswersTooGreat(t *testing.T) {
	less, more := ranAll(t, "", "length(L, 500), length(M, 499)"), ranAll(t, "", "length(L, 500), length(M, 500)")
	if less.Code != impl.CodeOK || len(less.Answers) != 1 || len(less.Answers[0].Terms[0])+len(less.Answers[0].Terms[1]) != impl.MaxCells {
		t.Errorf("%.100s", told(less))
	}
	if more.Code != impl.CodeLimit || len(more.Answers) != 0 {
		t.Errorf("%.100s", told(more))
	}
	o := ranAll(t, "", "write(a), L = 1 ; write(b), length(L, 500), length(M, 500) ; write(c)")
	if o.Code != impl.CodeLimit || answersText(o.Answers) != "1 _0" || string(o.Out) != "ab" {
		t.Errorf("%.100s", told(o))
	}
}

// The list that findall makes is looked at with each term that is taken.
func TestMachineFindallTooGreat(t *testing.T) {
	less, more := ranAll(t, "", "findall(x, between(1, 999, _), _)"), ranAll(t, "", "findall(x, (between(1, 2000, _), write(a)), _)")
	if less.Code != impl.CodeOK || len(less.Answers) != 1 {
		t.Errorf("%.100s", told(less))
	}
	if more.Code != impl.CodeLimit || len(more.Answers) != 0 || len(more.Out) != 1000 {
		t.Errorf("%.100s, %d bytes", told(more), len(more.Out))
	}
}

// ofCells is the outcome of a query that is given by its cells.
func ofCells(t *testing.T, query []impl.Cell) impl.Outcome {
	t.Helper()
	if !impl.ValidTerm(query) {
		t.Fatalf("%d cells", len(query))
	}
	return impl.RunMachine(impl.DefaultOps(), built(t, "p(_). q(_). nl2."), query, 1, impl.MaxFuel, true)
}

// wantLargest asks that a query is run with a number, and that it ends with CodeLimit with one more.
func wantLargest(t *testing.T, what string, n int, query func(n int) []impl.Cell) {
	t.Helper()
	if o := ofCells(t, query(n)); o.Code == impl.CodeLimit {
		t.Errorf("%s, %d: %.100s", what, n, told(o))
	}
	if o := ofCells(t, query(n+1)); o.Code != impl.CodeLimit || o.Steps != 0 {
		t.Errorf("%s, %d: %.100s", what, n+1, told(o))
	}
}

func TestMachineCalledTooGreat(t *testing.T) {
	nl := atomTerm("nl2")
	wide := func(name string, n int) []impl.Cell { return compTerm(name, wideCells(n)) }
	// :- of $1 and a body of n + 3 cells
	wantLargest(t, "the clause of a conjunction", 1995, func(n int) []impl.Cell { return compTerm(",", wide("p", n), nl) })
	// :- of $2 and $level(M), p(..), $cut(M)
	wantLargest(t, "a clause that is made in lowering", 1991, func(n int) []impl.Cell { return compTerm("once", wide("p", n)) })
	// \\+ of , of p(..) and \\+ of q(..)
	wantLargest(t, "the normal body", 995, func(n int) []impl.Cell { return compTerm("forall", wide("p", n), wide("q", 1000)) })
	// the clause of a fact, which has the body true
	wantLargest(t, "a fact", 1997, func(n int) []impl.Cell { return compTerm("assertz", wide("f", n)) })
	wantLargest(t, "the normal body of a clause", 992, func(n int) []impl.Cell {
		both := compTerm(",", compTerm("forall", wide("p", 331), wide("q", 333)), compTerm("forall", wide("p", 333), wide("q", n)))
		return compTerm("asserta", compTerm(":-", atomTerm("h"), both))
	})
	// = of the list and [], twice
	phrase := func(n int) []impl.Cell { return compTerm("phrase", parsed("[] ; []"), wideCells(n)) }
	wantLargest(t, "the goal of a phrase", 997, phrase)
	// It is not put on the heap then: there is nothing but the query.
	asked := impl.RunMachine(impl.DefaultOps(), impl.Program{}, phrase(998), 0, 0, true)
	if o := ofCells(t, phrase(998)); o.Cells != asked.Cells {
		t.Errorf("the goal of a phrase: %d cells, want %d", o.Cells, asked.Cells)
	}
	for n, want := range map[int]int{256: impl.CodeMore, 257: impl.CodeLimit} {
		// The outermost one has the register of the argument; each within needs one of its own.
		deep := within(atomTerm("x"), "f", n)
		if o := ofCells(t, compTerm(",", compTerm("p", deep), nl)); o.Code != want {
			t.Errorf("%d within each other: %.100s", n, told(o))
		}
		if o := ofCells(t, compTerm("assertz", compTerm(":-", atomTerm("h"), compTerm("p", deep)))); o.Code != want {
			t.Errorf("%d within each other, asserted: %.100s", n, told(o))
		}
		if o := ofCells(t, compTerm("p", deep)); o.Code != impl.CodeMore {
			t.Errorf("%d within each other need no register where there is no code: %.100s", n, told(o))
		}
	}
}

func TestMachineAssertVariables(t *testing.T) {
	for n, want := range map[int]int{20: impl.CodeMore, 21: impl.CodeLimit} {
		goals := manyOf(n, ", ", numbered("X%d = 1"))
		if o := ran(t, "", "assertz((h :- "+goals+" ; fail))", 1, impl.MaxFuel, true); o.Code != want {
			t.Errorf("%d variables: %s", n, told(o))
		}
		if o := ran(t, "", "assertz((h :- "+goals+"))", 1, impl.MaxFuel, true); o.Code != impl.CodeMore {
			t.Errorf("a clause itself may have any: %s", told(o))
		}
	}
}

// A run may make more predicates and clauses than a program may have.
func TestMachineMoreThanPrograms(t *testing.T) {
	o := ranAll(t, "", "between(1, 700, X), assertz(p(X)), fail ; findall(x, p(_), L), length(L, N), fail")
	if told(o) != "no" {
		t.Error(told(o))
	}
	o = ranAll(t, "", "between(1, 400, X), call((X = 1 ; X > 399)), write(X), fail")
	if told(o) != "no | 1400" {
		t.Error(told(o))
	}
	// So may one clause alone.
	o = ranAll(t, "", manyOf(impl.MaxPreds+1, ", ", func(int) string { return "\\+ fail" }))
	if told(o) != "yes | no" {
		t.Error(told(o))
	}
	program := manyOf(20, " ", numbered("q(%d)."))
	o = ranAll(t, program, "q(_), between(1, 150, X), assertz(p(X)), fail ; p(X), X > 149, write(X), fail")
	if told(o) != "no | "+strings.Repeat("150", 20) {
		t.Error(told(o))
	}
}

func TestMachineMaxPairs(t *testing.T) {
	const doubles = "d(0, a). d(N, f(X, X)) :- N > 0, M is N - 1, d(M, X). same(N) :- d(N, X), d(N, Y), X = Y. head(N) :- d(N, X), d(N, Y), both(X, Y). both(X, X). "
	for _, name := range []string{"same", "head"} {
		// 2^(N + 1) - 1 pairs
		less, more := ran(t, doubles, name+"(13)", 1, impl.MaxFuel, true), ran(t, doubles, name+"(14)", 1, impl.MaxFuel, true)
		wantRunEdge(t, name, less, more, impl.CodeLimit)
	}
}

func TestMachineCyclic(t *testing.T) {
	wantRuns(t, []runs{
		{"", "X = f(X)", "cyclic"},
		{"", "write(a), X = f(Y), Y = g(X), write(b)", "cyclic | a"},
		{"p(X, X).", "p(A, f(A))", "cyclic"},
		{"p(X, f(X)).", "p(A, A)", "cyclic"},
		{"p(f(X), g(X, X)).", "p(A, g(f(A), A))", "cyclic"},
		{"p(X, Y) :- X = Y.", "p(f(A), A)", "cyclic"},
		{"", "X =.. [f, X]", "cyclic"},
		{"", "copy_term(f(Y), g(X, X))", "no"},
		{"", "findall(X - f(X), true, [Y - Y])", "cyclic"},
		{"", "X = 1 ; X = f(X)", "1 | cyclic"},
		{"", "findall(X, X = f(X), L)", "cyclic"},
		{"", "X \\= f(X)", "_0 | no"},
		{"", "\\+ X = f(X)", "cyclic"},
	})
}
