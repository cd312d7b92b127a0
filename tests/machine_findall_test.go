package tests

import "testing"

func TestMachineFindall(t *testing.T) {
	const facts = "p(1). p(2). p(3). "
	wantRuns(t, []runs{
		{facts, "findall(X, p(X), L)", "_0 [1,2,3] | no"},
		{facts, "findall(X, fail, L)", "_0 [] | no"},
		{facts, "findall(x, p(_), L)", "_0 [x,x,x] | no"},
		{facts, "findall(X, p(X), [A|B])", "_0 1 [2,3] | no"},
		{facts, "findall(X, p(X), [A, B])", "no"},
		{facts, "findall(X, p(X), a)", "no"},
		{facts, "findall(X - Y, p(X), L)", "_0 _1 [1-_2,2-_3,3-_4] | no"},
		{facts, "findall(f(Y, Z, Y), p(X), L)", "_0 _1 _2 [f(_3,_4,_3),f(_5,_6,_5),f(_7,_8,_7)] | no"},
		{facts, "findall(X, (p(X), X > 1, !), L)", "_0 [2] | no"},
		{facts, "X = 2, findall(X, p(X), L)", "2 [2] | no"},
		{facts, "findall(X, p(X), L), p(X)", "1 [1,2,3]; 2 [1,2,3]; 3 [1,2,3] | no"},
		{facts, "p(X), findall(X - Y, (p(Y), Y < X), L)", "1 _0 []; 2 _0 [2-1]; 3 _0 [3-1,3-2] | no"},
		{facts, "p(X), findall(Y, (p(Y), Y > X, !), L), write(L), fail", "no | [2][3][]"},
		{facts, "findall(X, (X = 1 ; X = Y ; Y = 2, X = Y), L)", "_0 _1 [1,_2,2] | no"},
		{facts, "findall(X, (p(X), write(X)), L), write(L)", "_0 [1,2,3] | no | 123[1,2,3]"},
		{facts, "findall(L, p(L), L)", "[1,2,3] | no"},
		{facts, "findall(X, p(X), X)", "[1,2,3] | no"},
		{facts, "findall(X, assertz(q(7)), L), q(Y)", "_0 [_1] 7 | no"},
		{facts, "findall(X, (p(X), assertz(q(X))), L), q(Y)", "_0 [1,2,3] 1; _0 [1,2,3] 2; _0 [1,2,3] 3 | no"},
	})
}

func TestMachineFindallWithin(t *testing.T) {
	const facts = "p(1). p(2). l(X, L) :- findall(Y, (p(Y), Y >= X), L). "
	wantRuns(t, []runs{
		{facts, "findall(L, (p(X), l(X, L)), LL)", "_0 _1 [[1,2],[2]] | no"},
		{facts, "findall(X - L, (p(X), findall(Y, p(Y), L)), LL)", "_0 _1 _2 [1-[1,2],2-[1,2]] | no"},
		{facts, "findall(A, (findall(B, (findall(C, p(C), B)), A)), D)", "_0 _1 _2 [[[1,2]]] | no"},
		{facts, "findall(X, (p(X), \\+ findall(_, p(_), [])), L)", "_0 _1 _2 [1,2] | no"},
		{facts, "findall(X, (p(X), findall(Y, (p(Y), Y > X), [])), L)", "_0 _1 [2] | no"},
		{facts, "findall(X, catch(p(X), _, true), L)", "_0 _1 [1,2] | no"},
		{facts, "findall(X, (p(X), (X > 1 -> true ; fail)), L), p(Z)", "_0 [2] 1; _0 [2] 2 | no"},
	})
}

// A ball that is not caught in a run within another is thrown in this one, as it was before.
func TestMachineThrowWithinFindall(t *testing.T) {
	const facts = "p(1). p(2). "
	wantRuns(t, []runs{
		{facts, "findall(X, throw(a), L)", "ball a"},
		{facts, "findall(X, (p(X), X > 1, throw(f(X, Y))), L)", "ball f(2,_0)"},
		{facts, "findall(X, Y, L)", "ball error(instantiation_error,call/1)"},
		{facts, "findall(X, 3, L)", "ball error(type_error(callable,3),call/1)"},
		{facts, "findall(X, (p(X), 3), L)", "ball error(type_error(callable,(p(_0),3)),call/1)"},
		{facts, "catch(findall(X, (p(X), X > 1, throw(f(X))), L), f(Y), true)", "_0 _1 2 | no"},
		{facts, "findall(X, catch(throw(a), a, p(X)), L)", "_0 [1,2] | no"},
		{facts, "findall(E, catch(throw(a), E, true), L)", "_0 [a] | no"},
		{facts, "catch(findall(X, catch(throw(a), b, p(X)), L), a, X = 7)", "7 _0 | no"},
		{facts, "catch(findall(X, findall(Y, throw(Z), X), L), E, true)", "_0 _1 _2 _3 error(instantiation_error,throw/1) | no"},
		{facts, "catch(findall(X, findall(Y, throw(g(Y)), X), L), g(E), true)", "_0 _1 _2 _3 | no"},
		{facts, "findall(X, catch(findall(Y, throw(g), Z), g, X = 5), L)", "_0 _1 _2 [5] | no"},
		{facts, "p(X), catch(findall(Y, (p(Y), throw(h(Y))), _), h(Z), true)", "1 _0 _1 1; 2 _0 _1 1 | no"},
		// Its own catches are not those around: one that stands around and is active is found, one that is left is not.
		{facts, "catch(true, a, true), findall(X, throw(a), L)", "ball a"},
		{facts, "catch((findall(X, p(X), L), throw(a)), a, true)", "_0 _1 | no"},
		{facts, "catch((catch(findall(X, p(X), L), a, true), throw(b(L))), b(M), true)", "_0 _1 [1,2] | no"},
		{"g(A, B) :- catch(findall(X, h(X, B, A), _), E, w(A, B, E)). h(_, _, _) :- i(7, 8, 9). i(_, _, _) :- throw(e). w(A, B, E) :- write(A - B - E).", "g(1, 2)", "yes | no | 1-2-e"},
	})
}

// The run around goes on with its own environment, barrier, catches and choices.
func TestMachineAfterFindall(t *testing.T) {
	wantRuns(t, []runs{
		{"p(1). p(2). g(X, L) :- p(X), findall(Y, p(Y), L), q(X, L). q(2, [1, 2]).", "g(X, L)", "2 [1,2] | no"},
		{"p(1). p(2). g(X) :- p(X), findall(Y, (p(Y), !), [Z]), Z = X, !. g(9).", "g(X)", "1 | no"},
		{"p(1). p(2). g(X) :- findall(Y, p(Y), [X|_]). g(9).", "g(X)", "1; 9 | no"},
		{"p(1). p(2).", "catch((findall(X, p(X), L), throw(L)), [A, B], true)", "_0 _1 1 2 | no"},
		{"p(1). p(2).", "findall(X, (p(X) ; p(X)), L), p(Y), !", "_0 [1,2,1,2] 1 | no"},
		{"g(0, []). g(N, [N|T]) :- N > 0, M is N - 1, findall(x, g(M, _), _), g(M, T).", "g(3, L), !", "[3,2,1] | no"},
	})
}
