package tests

import (
	"fmt"
	"testing"

	"loop.example/s00095/impl"
)

func TestMachineAnswers(t *testing.T) {
	wantRuns(t, []runs{
		{"", "true", "yes | no"},
		{"", "fail", "no"},
		{"", "false", "no"},
		{"", "X = Y", "_0 _0 | no"},
		{"", "f(X, Y) = f(Z, a)", "_0 a _0 | no"},
		{"", "Z = f(Y, X)", "f(_0,_1) _0 _1 | no"},
		{"p(X, Y) :- Y = f(X).", "p(A, B)", "_0 f(_0) | no"},
		{"p(1). p(2). p(3).", "p(X)", "1; 2; 3 | no"},
		{"p(1). p(2).", "p(X), p(Y)", "1 1; 1 2; 2 1; 2 2 | no"},
		{"p(X) :- q(X). p(0). q(1). q(2).", "p(X)", "1; 2; 0 | no"},
		{"app([], L, L). app([H|T], L, [H|R]) :- app(T, L, R).", "app(X, [Y|Z], [1, 2])", "[] 1 [2]; [1] 2 [] | no"},
		{"app([], L, L). app([H|T], L, [H|R]) :- app(T, L, R).", "app([A|B], C, [1, 2])", "1 [] [2]; 1 [2] [] | no"},
		{"nrev([], []). nrev([H|T], R) :- nrev(T, S), app(S, [H], R). app([], L, L). app([H|T], L, [H|R]) :- app(T, L, R).", "nrev([1, 2, 3, 4], X)", "[4,3,2,1] | no"},
	})
}

// Variables of an answer have their numbers over all its terms together; those of the query may have any.
func TestMachineAnswerNumbers(t *testing.T) {
	query := compTerm("p", varTerm(70), varTerm(5), varTerm(70), varTerm(impl.MaxVar))
	p := built(t, "p(X, f(Y), X, Y). p(1, Y, X, Y). p(A, B, A, C).")
	o := impl.RunMachine(impl.DefaultOps(), p, query, 10, 100, true)
	if got := told(o); got != "_0 f(_1) _1; 1 _0 _0; _0 _1 _2 | no" {
		t.Error(got)
	}
	for _, a := range o.Answers {
		if len(a.Terms) != 3 {
			t.Errorf("%d terms", len(a.Terms))
		}
	}
}

func TestMachineAt(t *testing.T) {
	o := ranAll(t, "p(1). p(2). p(3).", "write(ab), p(X), write(X), nl")
	at := []int{}
	for _, a := range o.Answers {
		at = append(at, a.At)
	}
	if fmt.Sprint(at) != "[4 6 8]" || told(o) != "1; 2; 3 | no | ab1\n2\n3\n" {
		t.Errorf("%v %q", at, told(o))
	}
	o = ranAll(t, "p(1). p(2).", "p(X) ; write(c), fail")
	if len(o.Answers) != 2 || o.Answers[1].At != 0 || string(o.Out) != "c" {
		t.Error(showOutcome(o))
	}
}

func TestMachineCuts(t *testing.T) {
	const facts = "b(1). b(2). b(3). c(2). c(3). "
	wantRuns(t, []runs{
		{facts + "a(X) :- b(X), !. a(9).", "a(X)", "1 | no"},
		{facts + "a(X) :- !, b(X). a(9).", "a(X)", "1; 2; 3 | no"},
		{facts + "a(X) :- b(X), c(X), !. a(9).", "a(X)", "2 | no"},
		{facts + "a(X) :- b(X), !, c(X). a(9).", "a(X)", "no"},
		{facts + "a(X, Y) :- b(X), !, c(Y), !. a(9, 9).", "a(X, Y)", "1 2 | no"},
		{facts + "a(X, Y) :- b(X), !, c(Y). a(9, 9).", "a(X, Y)", "1 2; 1 3 | no"},
		{facts + "a(X) :- b(X), (X > 1, ! ; fail). a(9).", "a(X)", "2 | no"},
		{facts + "a(X) :- (b(X), ! ; X = 7). a(9).", "a(X)", "1 | no"},
		{facts + "a(X) :- (fail ; b(X), !). a(9).", "a(X)", "1 | no"},
		{facts + "a(X) :- (fail ; fail), !. a(9).", "a(X)", "9 | no"},
		{facts + "a(X) :- d(X). a(9). d(X) :- b(X), !. d(8).", "a(X)", "1; 9 | no"},
		{facts + "a(X) :- b(X), d(X). d(X) :- X > 1, !. d(8).", "a(X)", "2; 3 | no"},
		// in a condition
		{facts + "a(X) :- (b(X), ! -> true ; X = 7). a(9).", "a(X)", "1; 9 | no"},
		{facts + "a(X) :- (! -> b(X) ; X = 7). a(9).", "a(X)", "1; 2; 3; 9 | no"},
		{facts + "a(X) :- (b(X), !, X > 1 -> true ; X = 7). a(9).", "a(X)", "7; 9 | no"},
		{facts + "a(X) :- (b(X) -> ! ; true). a(9).", "a(X)", "1 | no"},
		{facts + "a(X) :- (fail -> true ; !, X = 5). a(9).", "a(X)", "5 | no"},
		{facts + "a(X) :- (b(X) -> true), c(Y). a(9).", "a(X)", "1; 1; 9 | no"},
		{facts + "a(X) :- ((b(X), ! ; X = 4), X > 0 -> true ; X = 7). a(9).", "a(X)", "1; 9 | no"},
		// in a negation
		{facts + "a(X) :- \\+ (b(X), !, fail), X = 6. a(9).", "a(X)", "6; 9 | no"},
		{facts + "a(X) :- \\+ (b(X), !), X = 6. a(9).", "a(X)", "9 | no"},
		{facts + "a(X) :- \\+ !. a(9).", "a(X)", "9 | no"},
		{facts + "a(X) :- \\+ \\+ (!, b(X)), X = 6, !. a(9).", "a(X)", "6 | no"},
		// in call, once, forall and findall
		{facts + "a(X) :- call((b(X), !)). a(9).", "a(X)", "1; 9 | no"},
		{facts + "a(X) :- call(!), b(X). a(9).", "a(X)", "1; 2; 3; 9 | no"},
		{facts + "a(X) :- G = (b(X), !), G. a(9).", "a(X)", "1; 9 | no"},
		{facts + "a(X) :- call((!, b(X) ; X = 7)). a(9).", "a(X)", "1; 2; 3; 9 | no"},
		{facts + "a(X) :- call(',', b(X), !). a(9).", "a(X)", "1; 9 | no"},
		{facts + "a(X) :- call((fail, !)). a(9).", "a(X)", "9 | no"},
		{facts + "a(X) :- once(b(X)). a(9).", "a(X)", "1; 9 | no"},
		{facts + "a(X) :- once((b(X), X > 1)), !. a(9).", "a(X)", "2 | no"},
		{facts + "a(X) :- forall(b(Y), (Y > 0, !)), X = 1. a(9).", "a(X)", "1; 9 | no"},
		{facts + "a(L) :- findall(X, (b(X), !), L). a(9).", "a(X)", "[1]; 9 | no"},
		{facts + "a(X) :- catch((b(X), !), _, true). a(9).", "a(X)", "1; 9 | no"},
		{facts + "a(X) :- catch(b(X), _, true), !. a(9).", "a(X)", "1 | no"},
		// of queries
		{facts, "b(X), !", "1 | no"},
		{facts, "b(X), (!, c(Y) ; Y = 1)", "1 2; 1 3 | no"},
		{facts, "!, b(X)", "1; 2; 3 | no"},
		{facts, "(b(X) ; X = 7), X > 1, !", "2 | no"},
		{facts, "(! ; X = 7)", "_0 | no"},
		{facts, "!, fail ; true", "no"},
		{facts, "b(X), call((c(Y), !))", "1 2; 2 2; 3 2 | no"},
	})
}

func TestMachineCutsInDynamic(t *testing.T) {
	const facts = ":- dynamic d/1, e/1. d(X) :- e(X), !. d(9). e(1). e(2). e(3). "
	wantRuns(t, []runs{
		{facts, "d(X)", "1 | no"},
		{facts, "d(X), e(Y)", "1 1; 1 2; 1 3 | no"},
		{facts, "d(9)", "yes | no"},
		{facts, "asserta((d(X) :- e(X), X > 1, ! ; X = 0)), d(Z)", "_0 2 | no"},
		{facts, "assertz((f(X) :- e(X), \\+ (X = 2, !), (X > 2 -> ! ; true))), f(Z)", "_0 1; _0 3 | no"},
	})
}

// A choice point brings back the arguments, the environment and the barrier of when it was made.
func TestMachineChoicesBringBack(t *testing.T) {
	wantRuns(t, []runs{
		{"p(A, B, C) :- q(A, C, B). p(A, B, C) :- r(C, B, A). q(1, 2, 9) :- fail. q(_, _, _) :- s(7, 7, 7), fail. r(C, B, A) :- t(A, B, C). s(_, _, _). t(1, 2, 3).", "p(1, 2, 3)", "yes | no"},
		{"p(X, Y) :- q(X), r(Y, X), s(X, Y). q(1). q(2). r(a, 1). r(b, 2). r(c, 2). s(2, c).", "p(X, Y)", "2 c | no"},
		{"p(X) :- q(Y), r(Y, Z), s(Z, X). q(1). q(2). q(3). r(1, a). r(2, b). r(3, c). s(a, x). s(c, z). s(c, w).", "p(X)", "x; z; w | no"},
		{"p(X) :- q(X), t(X). p(8). q(X) :- r(X), !. q(5). r(1). r(2). t(X) :- u(X), !. t(6). u(2).", "p(X)", "8 | no"},
		{"p(X, Y) :- q(X), !, q(Y). p(0, 0). q(X) :- r(X). r(X) :- s(X), t. r(7). s(1). s(2). t.", "p(X, Y)", "1 1; 1 2; 1 7 | no"},
		{"p(X) :- X = f(Y), q(Y). p(X) :- var(X), X = g. q(1) :- fail.", "p(X)", "g | no"},
		{"p(X) :- q(X, Y), r(Y). q(f(Y), Y). q(g(Y), Y). r(1). r(2).", "p(X)", "f(1); f(2); g(1); g(2) | no"},
		{"p :- q(X), write(X), fail. p :- q(X), write(X), q(Y), write(Y), fail. p. q(1). q(2).", "p", "yes | no | 12112212"},
		{"l([H|T], H, T). l([H|T], X, [H|R]) :- l(T, X, R). perm([], []). perm(L, [H|T]) :- l(L, H, R), perm(R, T).", "perm([1, 2, 3], X)", "[1,2,3]; [1,3,2]; [2,1,3]; [2,3,1]; [3,1,2]; [3,2,1] | no"},
	})
}

func TestMachineCall(t *testing.T) {
	const facts = "q(1). q(2). r(a, 1). r(b, 2). s(A, B, C, D, E, F, G, H) :- write([A, B, C, D, E, F, G, H]). "
	wantRuns(t, []runs{
		{facts, "call(q(X))", "1; 2 | no"},
		{facts, "call(q, X)", "1; 2 | no"},
		{facts, "call(r(X), Y)", "a 1; b 2 | no"},
		{facts, "call(call, r, X, Y)", "a 1; b 2 | no"},
		{facts, "call(call(call(r), X), Y)", "a 1; b 2 | no"},
		{facts, "call(s, 1, 2, 3, 4, 5, 6, 7), fail", "ball error(existence_error(procedure,s/7),s/7)"},
		{facts, "call(s(0), 1, 2, 3, 4, 5, 6, 7)", "yes | no | [0,1,2,3,4,5,6,7]"},
		{facts, "call(s(0, 1, 2), 3, 4, 5, 6, 7)", "yes | no | [0,1,2,3,4,5,6,7]"},
		{facts, "call(a, 1, 2, 3, 4, 5, 6, 7, 8)", "ball error(existence_error(procedure,call/9),call/9)"},
		{facts, "call", "ball error(existence_error(procedure,call/0),call/0)"},
		{facts, "X = q(Y), X", "q(1) 1; q(2) 2 | no"},
		{facts, "X = (q(Y), Y > 1), X", "q(2),2>1 2 | no"},
		{facts, "call(;, X = 1, X = 2)", "1; 2 | no"},
		{facts, "call(->, q(X), r(Y, X))", "1 a | no"},
		{facts, "call(;, (fail -> true), X = 2)", "2 | no"},
		{facts, "call(\\+, fail)", "yes | no"},
		{facts, "call(once, q(X))", "1 | no"},
		{facts, "call(forall, q(X), X < 3)", "_0 | no"},
		{facts, "call(!)", "yes | no"},
		{facts, "call(=, X, f(X, 1))", "cyclic"},
		{facts, "call(call((q(X), !)))", "1 | no"},
		{facts, "call((X = 1, call(!) ; X = 2))", "1; 2 | no"},
		{facts, "call((q(X), Y = X ; Y = 0))", "1 1; 2 2; _0 0 | no"},
		{facts, "call((q(X), \\+ X = 1 -> r(Y, X) ; fail))", "2 b | no"},
		{facts, "call((call((q(X), X > 1)), call((r(Y, X) ; Y = c))))", "2 b; 2 c | no"},
	})
}

// A called construct is a predicate of its variables: MaxArity of them, and the cut's barrier is not among these.
func TestMachineCallVariables(t *testing.T) {
	many := func(n int) string { return manyOf(n, ", ", numbered("X%d = %[1]d")) }
	for n, want := range map[int]int{1: impl.CodeOK, 19: impl.CodeOK, 20: impl.CodeOK, 21: impl.CodeLimit, 40: impl.CodeLimit, 300: impl.CodeLimit} {
		if o := ranAll(t, "", many(n)); o.Code != want || len(o.Answers) != boolNumber(want == impl.CodeOK) {
			t.Errorf("%d variables: %s", n, showOutcome(o))
		}
		if o := ranAll(t, "", many(n)+", !"); o.Code != want {
			t.Errorf("%d variables and a cut: %s", n, showOutcome(o))
		}
	}
	for n, want := range map[int]int{19: impl.CodeOK, 20: impl.CodeLimit} {
		// The new predicate of the ; has the cut variable, too.
		if o := ranAll(t, "", "("+many(n)+", ! ; fail)"); o.Code != want {
			t.Errorf("%d variables and a cut in an or: %s", n, showOutcome(o))
		}
	}
	args := manyOf(21, ", ", numbered("X%d"))
	if o := ranAll(t, "", "f("+manyOf(20, ", ", numbered("X%d"))+") = Y"); o.Code != impl.CodeOK {
		t.Errorf("a goal that is no construct may have more variables: %s", showOutcome(o))
	}
	if o := ranAll(t, "", "msort(["+args+"], Y)"); o.Code != impl.CodeOK {
		t.Errorf("a goal that is no construct may have more variables: %s", showOutcome(o))
	}
}

func TestMachineCallMaxArity(t *testing.T) {
	full := "f(" + manyOf(20, ", ", numbered("%d")) + ")"
	less := "f(" + manyOf(19, ", ", numbered("%d")) + ")"
	wantRuns(t, []runs{
		{"", "call(" + full + ")", "ball error(existence_error(procedure,f/20),f/20)"},
		{"", "call(" + less + ", a)", "ball error(existence_error(procedure,f/20),f/20)"},
		{"", "call(" + full + ", a)", "ball error(representation_error(max_arity),call/2)"},
		{"", "call(" + less + ", a, b)", "ball error(representation_error(max_arity),call/3)"},
		// A name that no goal may have is looked at behind the arity.
		{"", "call('$f'(" + manyOf(20, ", ", numbered("%d")) + "), a)", "ball error(representation_error(max_arity),call/2)"},
	})
}

func TestMachineHalt(t *testing.T) {
	wantRuns(t, []runs{
		{"", "halt", "halt"},
		{"", "write(a), halt, write(b)", "halt | a"},
		{"p(1). p(2).", "p(X), X > 1, halt", "halt"},
		{"p(1). p(2).", "p(X) ; halt", "1; 2 | halt"},
		{"p(1). p(2).", "findall(X, (p(X), write(X), X > 1, halt), L), write(L)", "halt | 12"},
		{"", "findall(X, findall(Y, halt, X), L)", "halt"},
		{"", "catch(halt, X, true)", "halt"},
		{"", "\\+ halt", "halt"},
		{"", "forall(true, halt)", "halt"},
		{"", "call(halt, 1)", "ball error(existence_error(procedure,halt/1),halt/1)"},
	})
}
