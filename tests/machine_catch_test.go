package tests

import "testing"

func TestMachineThrow(t *testing.T) {
	wantRuns(t, []runs{
		{"", "throw(a)", "ball a"},
		{"", "throw(1)", "ball 1"},
		{"", "throw(f(X, Y, X))", "ball f(_0,_1,_0)"},
		{"", "X = f(Y), Z = g(Z2, X), throw(Z)", "ball g(_0,f(_1))"},
		{"", "throw(X)", "ball error(instantiation_error,throw/1)"},
		{"", "X = Y, throw(X)", "ball error(instantiation_error,throw/1)"},
		{"p(1). p(2).", "p(X), write(X), X > 1, throw(found(X))", "ball found(2) | 12"},
		{"p(1). p(2).", "p(X) ; throw(end)", "1; 2 | ball end"},
	})
}

func TestMachineCatch(t *testing.T) {
	const facts = "p(1). p(2). p(3). q(X) :- p(X), X > 1, throw(big(X)). q(0). "
	wantRuns(t, []runs{
		{facts, "catch(true, _, write(no))", "_0 | no"},
		{facts, "catch(fail, _, write(no))", "no"},
		{facts, "catch(throw(a), a, true)", "yes | no"},
		{facts, "catch(throw(a), b, true)", "ball a"},
		{facts, "catch(throw(f(X, 1)), f(a, Y), true)", "_0 1 | no"},
		{facts, "catch(throw(f(X, X)), f(a, Y), true)", "_0 a | no"},
		{facts, "catch(q(X), big(Y), true)", "_0 2 | no"},
		{facts, "catch(p(X), _, true)", "1 _0; 2 _0; 3 _0 | no"},
		{facts, "catch(throw(a), _, p(X))", "a 1; a 2; a 3 | no"},
		{facts, "catch(throw(a), X, (write(X), fail))", "no | a"},
		{facts, "catch(throw(a), X, throw(b(X)))", "ball b(a)"},
		{facts, "catch(throw(a), X, (p(Y), !))", "a 1 | no"},
		{facts, "catch(q(X), _, true), write(X)", "_0 big(2) | no | _0"},
		{facts, "catch((p(X), write(X), X > 1, throw(a)), a, write(b))", "_0 | no | 12b"},
		{facts, "catch((X = 1, throw(X)), Y, true)", "_0 1 | no"},
		{facts, "catch(X, error(Y, Z), true)", "_0 instantiation_error call/1 | no"},
		{facts, "catch(3, error(Y, Z), true)", "type_error(callable,3) call/1 | no"},
		{facts, "catch((true, 3), error(Y, Z), true)", "type_error(callable,(true,3)) call/1 | no"},
		{facts, "catch(missing(1), error(Y, Z), true)", "existence_error(procedure,missing/1) missing/1 | no"},
		{facts, "catch(X is 1 + a, error(Y, Z), true)", "_0 type_error(evaluable,a/0) (is)/2 | no"},
		{facts, "catch((X is 1 + a), error(Y, Z), true), Y = W", "_0 type_error(evaluable,a/0) (is)/2 type_error(evaluable,a/0) | no"},
		{facts, "catch(throw(a), X, 5)", "ball error(type_error(callable,5),call/1)"},
		{facts, "catch(throw(a), X, Y)", "ball error(instantiation_error,call/1)"},
		{facts, "catch(catch(throw(a), X, Y), error(Z, _), true)", "_0 _1 instantiation_error call/1 | no"},
	})
}

// The recovery is not under its catch; the catch around it is active.
func TestMachineCatchesNested(t *testing.T) {
	wantRuns(t, []runs{
		{"", "catch(catch(throw(a), b, true), a, X = 1)", "1 | no"},
		{"", "catch(catch(throw(a), a, throw(b)), b, X = 1)", "1 | no"},
		{"", "catch(catch(throw(a), a, throw(a)), a, X = 1)", "1 | no"},
		{"", "catch(catch(throw(a), X, true), Y, true)", "a _0 | no"},
		{"", "catch((catch(true, a, true), throw(a)), X, true)", "a | no"},
		{"", "catch((catch(fail, a, true) ; throw(a)), X, true)", "a | no"},
		{"", "catch((catch(throw(a), a, true), throw(b)), X, write(X))", "b | no | b"},
		{"", "catch(catch(catch(throw(c), a, write(1)), b, write(2)), c, write(3))", "yes | no | 3"},
		{"", "catch((true ; true), _, true), catch(throw(b), X, true)", "_0 b; _0 b | no"},
		{"p(1). p(2). p(3).", "catch((p(X), catch((X > 1 -> throw(x(X)) ; true), y(_), true)), x(Z), true)", "1 _0 _1; _0 _1 2 | no"},
	})
}

// What is thrown behind a catch is not its own, but what is thrown when its goal is come back to is.
func TestMachineCatchesLeftAndComeBackTo(t *testing.T) {
	wantRuns(t, []runs{
		{"", "catch(true, X, true), throw(a)", "ball a"},
		{"p(1). p(2).", "catch(p(X), _, true), X > 1, throw(a)", "ball a"},
		{"p(1). p(2).", "catch((p(X) ; throw(c)), Y, true)", "1 _0; 2 _0; _0 c | no"},
		{"p(1). p(2).", "catch((p(X) ; throw(c)), Y, true), catch((true ; throw(d)), Z, true)", "1 _0 _1; 1 _0 d; 2 _0 _1; 2 _0 d; _0 c _1; _0 c d | no"},
		{"p(1). p(2).", "catch((p(X) ; throw(c)), c, write(c)), write(X), fail", "no | 12c_0"},
		{"p(1). p(2). q(X) :- catch(p(X), _, true). q(3) :- throw(q).", "catch(q(X), Y, true)", "1 _0; 2 _0; _0 q | no"},
		{"p(1) :- true ; throw(in). p(2).", "catch(p(X), in, X = 0), write(X), nl, fail", "no | 1\n0\n"},
		{"g :- catch(h, a, write(g)). h :- write(h). h :- throw(a).", "g, write(-), fail", "no | h-g-"},
		{"g :- catch(h, a, write(g)), throw(a). h :- write(h). h :- throw(a).", "catch(g, X, write(out))", "a | no | hout"},
		// A cut behind takes the catch's choice point away, and all in it.
		{"p(1). p(2).", "catch((p(X) ; throw(c)), _, true), !", "1 _0 | no"},
		{"p(1). p(2).", "(catch((p(X) ; throw(c)), _, true) -> true ; true), throw(d)", "ball d"},
		{"p(1). p(2).", "catch((catch((p(X) ; throw(c)), _, true), !, throw(d)), E, true)", "_0 _1 d | no"},
	})
}

// Of a ball that is taken half nothing stays.
func TestMachineHalfOfABall(t *testing.T) {
	wantRuns(t, []runs{
		{"", "catch(catch(throw(f(a, b)), f(X, c), true), f(Y, Z), true)", "_0 a b | no"},
		{"", "catch(catch(throw(f(A, b, A)), f(X, c, d), true), f(Y, Z, e), true)", "_0 _1 e b | no"},
		{"", "catch(catch(throw(f(a, b)), f(X, X), true), f(Y, Z), (var(X), write(ok)))", "_0 a b | no | ok"},
		{"", "catch(catch(throw(f(g(h(1)), 2)), f(g(X), 3), true), B, true)", "_0 f(g(h(1)),2) | no"},
	})
}

// What was bound since, and all choices since, are gone when a ball is caught; clauses and what was written stay.
func TestMachineCatchBringsBack(t *testing.T) {
	wantRuns(t, []runs{
		{"p(1). p(2).", "X = f(Y), catch((p(Y), Y = 2, throw(a)), a, true)", "f(_0) _0 | no"},
		{"p(1). p(2).", "p(X), catch((p(Y), throw(a)), a, true)", "1 _0; 2 _0 | no"},
		{"", "catch((assertz(p(1)), assertz(p(2)), throw(a)), a, p(X))", "1; 2 | no"},
		{":- dynamic p/1. p(1). p(2).", "catch((retract(p(1)), throw(a)), a, p(X))", "2 | no"},
		{"g(A, B, C) :- catch(h(C, B, A), D, w(A, B, C, D)). h(X, Y, Z) :- i(Z, X, Y, 9, 9). i(_, _, _, _, _) :- throw(ball). w(A, B, C, D) :- write([A, B, C, D]).", "g(1, 2, 3)", "yes | no | [1,2,3,ball]"},
		{"g(X) :- p(X), catch(q(X), two, true), r(X). p(1). p(2). p(3). q(X) :- X =:= 2, throw(two). q(_). r(_).", "g(X)", "1; 2; 3 | no"},
		{"g(X) :- catch(p(X), _, true), !. g(4). p(_) :- throw(a).", "g(X)", "_0 | no"},
		{"g(X) :- catch(p(X), _, h(X)). g(4). p(_) :- throw(a). h(X) :- i(X), !. h(5). i(6). i(7).", "g(X)", "6; 4 | no"},
	})
}

func TestMachineCatchCyclic(t *testing.T) {
	wantRuns(t, []runs{
		{"", "catch(throw(f(X, X)), f(Y, g(Y)), true)", "cyclic"},
		{"", "catch(X = f(X), _, true)", "cyclic"},
		{"", "catch(catch(throw(f(X, X)), f(Y, g(Y)), true), _, true)", "cyclic"},
	})
}
