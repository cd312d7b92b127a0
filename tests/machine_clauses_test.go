package tests

import "testing"

func TestMachineAssert(t *testing.T) {
	wantRuns(t, []runs{
		{"", "assertz(p(1)), assertz(p(2)), p(X)", "1; 2 | no"},
		{"", "asserta(p(1)), asserta(p(2)), p(X)", "2; 1 | no"},
		{"", "assertz(p(1)), asserta(p(0)), assertz(p(2)), asserta(p(-1)), p(X)", "-1; 0; 1; 2 | no"},
		{"", "assertz(p), p", "yes | no"},
		{"", "assertz((p(X) :- X = 1)), p(Y)", "_0 1 | no"},
		{"", "assertz((p(X) :- X = 1 ; X = 2 ; X = 3)), p(Y)", "_0 1; _0 2; _0 3 | no"},
		{"", "assertz((p(X) :- once(q(X)))), assertz(q(1)), assertz(q(2)), p(Y)", "_0 1 | no"},
		{"", "assertz((p(X) :- forall(q(Y), Y < X))), assertz(q(1)), assertz(q(2)), p(3)", "_0 _1 | no"},
		{"", "assertz((p(X, Y) :- Y)), p(1, Z = 2)", "_0 _1 2 | no"},
		{"", "assertz((p(X) :- \\+ q(X), (X > 2 -> true ; fail))), assertz(q(4)), p(3), \\+ p(4), \\+ p(1)", "_0 | no"},
		{"", "X = 5, assertz(p(X)), p(Y)", "5 5 | no"},
		{"", "X = f(Y, Z), assertz(p(X, Y)), p(A, B)", "f(_0,_1) _0 _1 f(_2,_3) _2 | no"},
		{"", "assertz((f(0) :- !)), assertz((f(N) :- M is N - 1, f(M))), f(10)", "_0 _1 | no"},
		{":- dynamic p/1. p(1).", "assertz(p(2)), asserta(p(0)), p(X)", "0; 1; 2 | no"},
		{":- dynamic p/1.", "assertz(p(2)), p(X)", "2 | no"},
		{"q(1). q(2).", "q(X), assertz(p(X)), fail ; p(Y)", "_0 1; _0 2 | no"},
		{"q(1). q(2).", "q(X), asserta(p(X)), fail ; p(Y)", "_0 2; _0 1 | no"},
		{"", "assertz(p(1, a)), assertz(p(1, b, c)), p(1, X)", "a | no"},
		{"r :- p(1).", "assertz(p(1)), r", "yes | no"},
		{"r :- p(1).", "catch(r, error(E, _), true), assertz(p(1)), r", "existence_error(procedure,p/1) p/1 | no"},
		{"", "assertz((p :- '$a'))", "ball error(type_error(callable,'$a'),assertz/1)"},
	})
}

// A query goes through the clauses that there were when it began; those that are erased since, too.
func TestMachineClausesChangeWithin(t *testing.T) {
	const facts = ":- dynamic p/1. p(1). p(2). p(3). "
	wantRuns(t, []runs{
		{facts, "p(X), Y is X + 10, assertz(p(Y))", "1 11; 2 12; 3 13 | no"},
		{facts, "p(X), assertz(p(9)), fail ; p(Y)", "_0 1; _0 2; _0 3; _0 9; _0 9; _0 9 | no"},
		{facts, "p(X), asserta(p(9))", "1; 2; 3 | no"},
		{facts, "p(X), retract(p(3))", "1 | no"},
		{facts, "p(X), (retract(p(2)) -> true ; true)", "1; 2; 3 | no"},
		{facts, "p(X), (retract(p(X)) -> true ; true), \\+ p(X)", "1; 2; 3 | no"},
		{facts, "p(X), (retract(p(_)), fail ; true)", "1 _0; 2 _0; 3 _0 | no"},
		{facts, "p(X), \\+ p(X)", "no"},
		{facts, "p(X), retract(p(2)), p(Y)", "1 1; 1 3 | no"},
		{facts, "(p(X), X > 1, asserta(p(0)) ; p(X), X < 1)", "2; 3; 0; 0 | no"},
		{":- dynamic p/1. p(1) :- assertz(p(5)), fail. p(2).", "p(X)", "2 | no"},
		{":- dynamic p/1. p(1) :- assertz(p(5)), fail. p(2).", "p(X) ; p(X)", "2; 2; 5 | no"},
		{":- dynamic p/1. p(1) :- retract((p(1) :- _)), retract(p(2)). p(2).", "p(X)", "1; 2 | no"},
		{":- dynamic p/1. p(1) :- retract((p(1) :- _)), retract(p(2)). p(2).", "findall(X, p(X), L), findall(Y, p(Y), M)", "_0 [1,2] _1 [] | no"},
		{":- dynamic c/1. c(0). n(X) :- retract(c(X)), Y is X + 1, assertz(c(Y)).", "n(A), n(B), n(C), c(D)", "0 1 2 3 | no"},
	})
}

func TestMachineRetract(t *testing.T) {
	const facts = ":- dynamic p/1, q/2, r/0. p(1). p(2). p(3). q(X, Y) :- p(X), (Y = 1 ; Y = 2). q(X, X). q(f(X), X) :- X. "
	wantRuns(t, []runs{
		{facts, "retract(p(X))", "1; 2; 3 | no"},
		{facts, "retract(p(2)), findall(X, p(X), L)", "_0 [1,3] | no"},
		{facts, "retract(p(4))", "no"},
		{facts, "retract((p(X) :- true))", "1; 2; 3 | no"},
		{facts, "retract((p(X) :- Y))", "1 true; 2 true; 3 true | no"},
		{facts, "retract((p(X) :- fail))", "no"},
		{facts, "retract((p(X) :- 7))", "no"},
		{facts, "retract(q(A, B))", "_0 _0 | no"},
		{facts, "retract((q(A, B) :- C))", "_0 _1 p(_0),(_1=1;_1=2); _0 _0 true; f(_0) _0 call(_0) | no"},
		{facts, "retract((q(A, B) :- C, D))", "_0 _1 p(_0) _1=1;_1=2 | no"},
		{facts, "retract((q(1, B) :- C, D)), q(E, F)", "_0 p(1) _0=1;_0=2 _1 _1 | ball error(instantiation_error,call/1)"},
		{facts, "retract(r)", "no"},
		{facts, "retract(never(seen))", "no"},
		{facts, "retract(p(X)), X > 1, !, findall(Y, p(Y), L)", "2 _0 [3] | no"},
		{facts, "retract(p(X)), fail ; findall(Y, p(Y), L)", "_0 _1 [] | no"},
		{facts, "retract(p(_)), retract(p(X))", "1 2; 1 3 | no"},
		{facts, "retract(p(1)), p(1)", "no"},
		{facts, "retract(p(1)), assertz(p(1)), findall(X, p(X), L)", "_0 [2,3,1] | no"},
		{facts, "X = (p(2) :- Y), retract(X)", "p(2):-true true | no"},
		{"", "assertz((p(X) :- X, q)), retract((p(Y) :- Z))", "_0 _1 call(_1),q | no"},
		{"", "assertz(p(f(X, Y, X))), retract(p(f(A, B, 1)))", "_0 _1 1 _2 | no"},
	})
}

// What is erased by now is not retracted again.
func TestMachineRetractErased(t *testing.T) {
	const facts = ":- dynamic p/1. p(1). p(2). p(3). "
	wantRuns(t, []runs{
		{facts, "retract(p(X)), retract(p(Y))", "1 2; 1 3 | no"},
		{facts, "retract(p(X)), (retract(p(2)) -> true ; true)", "1; 3 | no"},
		{facts, "retract(p(X)), (retract(p(_)), fail ; true)", "1 _0 | no"},
		{facts, "p(X), retract(p(Y)), fail ; p(X)", "no"},
		{facts, "retract(p(X)), write(X), (retract(p(3)) ; true), fail", "no | 12"},
	})
	// The others stay in the choice point, so that this is there until it has come to its last one.
	wantCounts(t, true, []counts{
		{facts, "retract(p(1))", 1, 1, 9},
		{facts, "retract(p(3))", 1, 1, 9},
		{facts, "retract(p(_)), retract(p(_)), retract(p(_))", 15, 3, 39},
	})
}

func TestMachineRetractCyclic(t *testing.T) {
	wantRuns(t, []runs{
		{":- dynamic p/2. p(X, f(X)).", "retract(p(A, A))", "cyclic"},
		{":- dynamic p/2. p(X, f(X)).", "p(A, A)", "cyclic"},
		{":- dynamic p/2. p(1, 2). p(X, f(X)).", "retract(p(A, 2))", "1 | no"},
		{":- dynamic p/1. p(X) :- q(X, f(X)).", "retract((p(A) :- q(B, B)))", "cyclic"},
	})
}

// Changes are not undone by failing, by a ball, or by the end of a run within.
func TestMachineChangesStay(t *testing.T) {
	wantRuns(t, []runs{
		{"", "(assertz(p(1)), fail ; true), p(X)", "1 | no"},
		{"", "catch((assertz(p(1)), throw(a)), a, true), p(X)", "1 | no"},
		{"", "findall(x, (assertz(p(1)) ; assertz(p(2))), _), p(X)", "[x,x] 1; [x,x] 2 | no"},
		{"", "\\+ (assertz(p(1)), fail), p(X)", "1 | no"},
		{"", "\\+ \\+ assertz(p(1)), p(X)", "1 | no"},
		{":- dynamic p/1. p(1). p(2).", "\\+ \\+ retract(p(1)), p(X)", "2 | no"},
	})
	// A run knows nothing of the one before.
	p := built(t, ":- dynamic p/1. p(1).")
	for range 2 {
		wantRuns(t, []runs{{":- dynamic p/1. p(1).", "assertz(p(2)), retract(p(1)), findall(X, p(X), L)", "_0 [2] | no"}})
	}
	if shown := showProgram(p); shown != showProgram(built(t, ":- dynamic p/1. p(1).")) {
		t.Error(shown)
	}
}

func TestMachineDynamicPredicates(t *testing.T) {
	wantRuns(t, []runs{
		{":- dynamic p/1.", "p(X)", "no"},
		{":- dynamic p/0. p. p.", "p", "yes; yes | no"},
		{":- dynamic p/2. p(X, Y) :- q(X), r(Y). q(1). q(2). r(a). r(b).", "p(X, Y)", "1 a; 1 b; 2 a; 2 b | no"},
		{":- dynamic p/1. p(f(X)) :- p(X). p(0).", "p(f(f(0)))", "yes | no"},
		{":- dynamic p/1. p([H|T]) :- write(H), p(T). p([]).", "p([1, 2, 3])", "yes | no | 123"},
		{":- dynamic p/1. p(a). p(b).", "assertz((p(X) :- q(X))), assertz(q(c)), p(Y)", "_0 a; _0 b; _0 c | no"},
		{":- dynamic p/1.", "retract(p(1))", "no"},
		{":- dynamic p/1. p(1).", "retract(p(1)), p(X)", "no"},
		{"", "assertz(p(1)), retract(p(1)), p(X)", "no"},
	})
}
