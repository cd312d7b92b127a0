package tests

import (
	"fmt"
	"testing"

	"loop.example/s00095/impl"
)

// wantSteps asks for the numbers of searches for all answers, reckoned by hand: each goal that is taken is a step, the
// first of them call(query).
func wantSteps(t *testing.T, cases []counts) {
	t.Helper()
	for _, c := range cases {
		o := solvedAll(t, c.program, c.query)
		if o.Steps != c.steps || o.Choices != c.choices || o.Cells != c.cells {
			t.Errorf("%s ?- %s: steps %d choices %d cells %d, want %d %d %d (%.300s)", c.program, c.query, o.Steps, o.Choices, o.Cells, c.steps, c.choices, c.cells, told(o))
		}
	}
}

func TestSolveStepsOfConstructs(t *testing.T) {
	wantSteps(t, []counts{
		{"", "true", 2, 0, 0},
		{"", "fail", 2, 0, 0},
		{"", "X", 1, 0, 1},
		{"", "7", 1, 0, 0},
		{"", "missing(X, Y, X)", 2, 0, 2},
		{"", "true, true", 4, 0, 0},
		{"", "true, true, true", 6, 0, 0},
		{"", "(true, true), true", 6, 0, 0},
		{"", "fail, true", 3, 0, 0},
		{"", "!", 2, 0, 0},
		{"", "true ; true", 4, 1, 0},
		{"", "fail ; true", 4, 1, 0},
		{"", "true ; true ; true", 6, 1, 0},
		{"", "(true ; true), true", 7, 1, 0},
		{"", "(true ; true), (true ; true)", 11, 2, 0}, // call , ; true ; true true true ; true true
		{"", "! ; true", 3, 1, 0},
		{"", "true -> true", 4, 0, 0},
		{"", "fail -> true", 3, 0, 0},
		{"", "true -> fail", 4, 0, 0},
		{"", "true -> true ; true", 4, 1, 0}, // the -> is no goal of its own
		{"", "fail -> true ; true", 4, 1, 0},
		{"", "true -> fail ; true", 4, 1, 0},
		{"", "(true ; true) -> true ; true", 5, 2, 0},
		{"", "(true ; true) -> true", 5, 1, 0},
		{"", "\\+ true", 4, 1, 0}, // the last step is fail
		{"", "\\+ fail", 3, 1, 0},
		{"", "\\+ fail, true", 5, 1, 0},
		{"", "\\+ (true ; true)", 5, 2, 0},
		{"", "once(true)", 4, 0, 0},                // true -> true
		{"", "once((true ; true))", 5, 1, 0},       //
		{"", "forall(true, true)", 7, 2, 0},        // \+ , true \+ true fail
		{"", "forall(true, fail)", 7, 2, 0},        // \+ , true \+ fail fail
		{"", "forall(fail, true)", 4, 1, 0},        // \+ , fail
		{"", "call(true)", 3, 0, 0},                //
		{"", "call((true, true))", 5, 0, 0},        //
		{"", "call(call, true)", 4, 0, 0},          // call/2 call/1 true
		{"", "call(call(call), true)", 5, 0, 0},    // call/2 call/2 call/1 true
		{"", "call(',', true, true)", 5, 0, 0},     //
		{"", "X = true, X", 5, 0, 1},               // , = call(X) true
		{"", "X = (true, true), call(X)", 7, 0, 1}, // .. a body is no copy
		{"", "call((X = Y ; Z = W))", 5, 1, 4},
	})
}

func TestSolveStepsOfPredicates(t *testing.T) {
	wantSteps(t, []counts{
		{"p.", "p", 3, 1, 0}, // the body true is a goal, and a single clause a choice point
		{"p :- true.", "p", 3, 1, 0},
		{"p(1). p(2). p(3).", "p(X)", 5, 1, 1},
		{"p(1). p(2). p(3).", "p(2)", 3, 1, 0},
		{"p(1). p(2). p(3).", "p(a)", 2, 1, 0},
		{":- dynamic p/1.", "p(a)", 2, 0, 0},
		{"p(X) :- q(X, Y). q(1, 2).", "p(A)", 4, 1, 3},
		{"p(X) :- q, r(X, Y). q. r(1, 2).", "p(A)", 7, 1, 3},       // p , q true r true
		{"p :- q. p :- r. q. r.", "p", 6, 2, 0},                    // p q true r true
		{"p :- q. q :- r. r.", "p", 5, 1, 0},                       //
		{"p(f(_)). p(g(_, _)). p(_).", "p(a)", 3, 1, 4},            // all three have new variables
		{"p(X, X, Y).", "p(A, B, C)", 3, 1, 5},                     //
		{"p(a, X). p(b, Y).", "p(b, Z)", 3, 1, 3},                  // one of them where the head does not hold
		{"p(X) :- q(X, Y, Z). p(_). q(a, b, c).", "p(d)", 4, 2, 4}, // p(X) has three, p(_) one
		{":- dynamic p/1. p(1). p(X).", "p(A)", 4, 1, 2},           //
		{"p :- q, !. p. q. q.", "p", 6, 2, 0},                      // p , q true !
		{"p :- (q ; r). q. r.", "p", 7, 2, 0},                      // p ; q true r true
	})
}

// Each c(N) has a choice point for both clauses, which is gone where the second is tried; c(0) leaves it.
func TestSolveStepsOfCounting(t *testing.T) {
	const count = "c(0). c(N) :- N > 0, M is N - 1, c(M)."
	wantSteps(t, []counts{
		{count, "c(0)", 5, 1, 2},  // call c true; then the second clause: , >
		{count, "c(1)", 10, 1, 4}, // five more: c , > , is
		{count, "c(2)", 15, 1, 6},
		{count, "c(-1)", 4, 1, 2},
		{count, "c(a)", 4, 1, 2},
	})
}

func TestSolveStepsOfBuiltins(t *testing.T) {
	wantSteps(t, []counts{
		{"", "X = Y", 2, 0, 2},
		{"", "X = f(Y, Y)", 2, 0, 2},
		{"", "copy_term(f(X, Y, X), Z)", 2, 0, 5},
		{"", "copy_term(f(X), g(Y))", 2, 0, 3}, // it is made though it is no answer
		{"", "X = Y, copy_term(X + Y, Z)", 4, 0, 4},
		{"", "functor(X, f, 3)", 2, 0, 4},
		{"", "functor(X, f, 0)", 2, 0, 1},
		{"", "functor(f(Y), X, Z)", 2, 0, 3},
		{"", "length(L, 4)", 2, 0, 5},
		{"", "length([A|L], 4)", 2, 0, 5},
		{"", "length(L, 0)", 2, 0, 1},
		{"", "X =.. [f, Y, Z]", 2, 0, 3},
		{"", "X is 1 + 2", 2, 0, 1},
		{"", "X is Y", 2, 0, 2},
		{"", "write(X), nl", 4, 0, 1},
		{"", "sort([X, Y, X], L)", 2, 0, 3},
		{"", "(copy_term(X, Y), fail ; copy_term(X, Z))", 6, 1, 5}, // no number is given twice
	})
}

func TestSolveStepsOfCatches(t *testing.T) {
	wantSteps(t, []counts{
		{"", "catch(true, _, true)", 4, 1, 1},                             // catch call true
		{"", "catch(fail, _, true)", 4, 1, 1},                             //
		{"", "catch(throw(a), X, true)", 6, 1, 1},                         // catch call throw call true
		{"", "catch(throw(f(A, B, A)), X, true)", 6, 1, 5},                // two in the ball
		{"", "catch(throw(a), b, true)", 4, 1, 0},                         //
		{"", "throw(f(A))", 2, 0, 1},                                      // nothing is unified
		{"", "catch(catch(throw(f(A)), b, true), X, true)", 8, 2, 4},      // it is copied for each catch
		{"", "catch(catch(throw(f(A)), X, throw(X)), Y, true)", 10, 2, 5}, // catch call catch call throw call throw call true; each ball once
		{"", "catch(X, error(E, _), true)", 5, 1, 3},                      // catch call call true
		{"", "catch(missing(X), error(E, _), true)", 6, 1, 3},             //
		{"", "catch(atom_length(X, Y), E, true)", 6, 1, 3},                //
		{"", "catch(atom_length(f(X), Y), E, true)", 6, 1, 4},             // the culprit f(X) is copied
		{"p(X) :- throw(X).", "catch(p(f(Y, Z)), W, true)", 7, 2, 6},      // Y Z W, X, and two in the ball; the choice point of p above that of the catch
		{"", "catch((true ; throw(a)), _, true)", 8, 2, 1},                // catch call ; true throw call true
		{"", "catch(true, _, true), catch(throw(b), X, true)", 10, 2, 2},  // , catch call true catch call throw call true
		{"", "catch(findall(X, throw(f(X)), L), f(Y), true)", 8, 1, 4},    // catch call findall call throw call true
		{"", "catch(findall(X, catch(throw(f(X)), g, true), L), Y, true)", 10, 2, 5},
	})
}

func TestSolveStepsOfControlPredicates(t *testing.T) {
	wantSteps(t, []counts{
		{"", "findall(X, true, L)", 4, 0, 3}, // findall call true, and a new variable for the X of the answer
		{"", "findall(X, fail, L)", 4, 0, 2},
		{"", "findall(x, (true ; true), L)", 6, 1, 1},
		{"", "findall(X - Y, (X = 1 ; X = 2), L)", 6, 1, 5},
		{"", "findall(f(X, Y, X), (true ; true), [A])", 6, 1, 7}, // the list is made, though it is too long
		{"p(_). p(_).", "findall(X, p(X), L)", 6, 1, 6},          // one for each clause, one for each answer
		{"", "findall(X, findall(Y, true, X), L)", 6, 0, 5},
		{"", "findall(x, fail, L), true", 6, 0, 1},
		{"", "between(1, 3, X)", 2, 1, 1},
		{"", "between(1, 1, X)", 2, 1, 1},
		{"", "between(1, 0, X)", 2, 0, 1},
		{"", "between(1, 3, 2)", 2, 0, 0},
		{"", "between(1, 3, 4)", 2, 0, 0},
		{"", "between(1, 2, X), between(1, 2, Y)", 5, 2, 2},
		{"", "assertz(p(X, Y)), p(A, B)", 5, 1, 6},
		{"", "assertz((p(X) :- q(Y), Z)), retract((p(A) :- B))", 4, 1, 8},
		{":- dynamic p/2. p(X, 1). p(X, 2).", "retract(p(Z, 2))", 2, 1, 3}, // both have new variables
		{":- dynamic p/1. p(1). p(X).", "retract(p(Y))", 2, 1, 2},
		{":- dynamic p/1. p(X).", "retract((p(Y) :- fail))", 2, 1, 2},
		{":- dynamic p/1. p(X). p(X).", "retract(p(_)), retract(p(_))", 4, 2, 4}, // what is erased by now is not made
		{":- dynamic p/1.", "retract(p(X))", 2, 0, 1},
		{"", "retract(p(X))", 2, 0, 1},
		{"", "phrase([a], L)", 4, 0, 1}, // phrase call =
		{"", "phrase([a], L, R)", 4, 0, 2},
		{"", "phrase(([a], [b]), L)", 6, 0, 2}, // phrase call , = =, with a variable between
		{"", "phrase(([a] ; [b]), L)", 6, 1, 1},
		{"", "phrase(\\+ [a], [b], R)", 7, 1, 2}, // phrase call , \+ = =, with a variable for what is behind
		{"", "phrase(!, [b], R)", 6, 0, 1},
		{"", "phrase({true}, [b], R)", 6, 0, 1},
		{"s --> [a], s. s --> [].", "phrase(s, [a])", 11, 2, 10}, // phrase call s , = s , = = =; the clauses have three and two, and both are tried twice
		{"", "phrase(X, [a])", 2, 0, 1},
		{"", "phrase(7, X)", 2, 0, 1},
		{"", "phrase(([a], 7), X)", 2, 0, 1}, // nothing is made then
		{"", "X = [], phrase(X, L)", 6, 0, 2},
		{"", "halt", 2, 0, 0},
		{"", "findall(x, halt, L)", 4, 0, 1},
	})
}

// The numbers of variables come from the query's first places, whatever numbers they have there.
func TestSolveQueryVariables(t *testing.T) {
	query := compTerm("p", varTerm(70), varTerm(5), varTerm(70), varTerm(impl.MaxVar))
	p := built(t, "p(X, f(Y), X, Y). p(1, Y, X, Y). p(A, B, A, C).")
	o := impl.Solve(impl.DefaultOps(), p, query, 10, 100)
	if got := told(o); got != "_0 f(_1) _1; 1 _0 _0; _0 _1 _2 | no" {
		t.Error(got)
	}
	if o.Steps != 5 || o.Choices != 1 || o.Cells != 3+2+2+3 {
		t.Error(showOutcome(o))
	}
	if o := impl.Solve(impl.DefaultOps(), p, query, 0, 100); !isZeroBut(impl.Outcome{Code: o.Code, Steps: o.Steps, Choices: o.Choices}, impl.CodeMore) || o.Cells != 3 {
		t.Error(showOutcome(o))
	}
}

func TestSolveAt(t *testing.T) {
	o := solvedAll(t, "p(1). p(2). p(3).", "write(ab), p(X), write(X), nl")
	at := []int{}
	for _, a := range o.Answers {
		at = append(at, a.At)
	}
	if fmt.Sprint(at) != "[4 6 8]" || told(o) != "1; 2; 3 | no | ab1\n2\n3\n" {
		t.Errorf("%v %q", at, told(o))
	}
	o = solvedAll(t, "p(1). p(2).", "p(X) ; write(c), fail")
	if len(o.Answers) != 2 || o.Answers[1].At != 0 || string(o.Out) != "c" {
		t.Error(showOutcome(o))
	}
}
