package tests

import (
	"testing"

	"loop.example/s00095/impl"
)

// The numbers are reckoned by hand from what CompileClause and LinkProgram make: an instruction is a step, an answer ends
// with a stop.
func TestMachineCountsOfHeads(t *testing.T) {
	cases := []counts{
		{"p(a).", "p(X)", 3, 0, 2},                                // getconst proceed stop
		{"p(a).", "p(a)", 3, 0, 2},                                //
		{"p(a).", "p(b)", 1, 0, 2},                                // getconst
		{"p(a).", "p(1)", 1, 0, 2},                                //
		{"p(a).", "p(a(a))", 1, 0, 4},                             //
		{"p(_).", "p(X)", 2, 0, 2},                                // proceed stop
		{"p(X, X).", "p(A, B)", 4, 0, 3},                          // getvar getval proceed stop
		{"p(X, X).", "p(1, 2)", 2, 0, 3},                          // getvar getval
		{"p(f(_, b)).", "p(X)", 5, 0, 5},                          // getstruct, with three cells, unifyvoid unifyconst proceed stop
		{"p(f(_, b)).", "p(f(X, Y))", 5, 0, 5},                    // no cells
		{"p(f(_, b)).", "p(f(a, c))", 3, 0, 5},                    // getstruct unifyvoid unifyconst
		{"p(f(_, b)).", "p(g(a, b))", 1, 0, 5},                    // getstruct
		{"p(f(_, b)).", "p(f(a))", 1, 0, 4},                       //
		{"p(f(_, b)).", "p(f)", 1, 0, 2},                          //
		{"p(f(_, b)).", "p(7)", 1, 0, 2},                          //
		{"p(f(X, X)).", "p(f(1, Y))", 5, 0, 5},                    // getstruct unifyvar unifyval proceed stop
		{"p(f(X, X)).", "p(f(1, 2))", 3, 0, 5},                    //
		{"p(f(g(X), h(a)), X).", "p(A, B)", 10, 0, 10},            // getstruct unifyvar unifyvar getstruct unifyvar getstruct unifyconst getval
		{"p(f(g(X), h(a)), X).", "p(f(A, A), B)", 6, 0, 8},        // .. the third getstruct fails, A being g of a new one
		{"p(f(g(X), h(a)), X).", "p(f(g(1), Z), 1)", 10, 0, 10},   // two cells for h(a)
		{"p(f(g(X), h(a)), X).", "p(f(g(1), h(a)), 2)", 8, 0, 10}, // the getval fails
	}
	wantCounts(t, true, cases)
	wantCounts(t, false, cases)
}

func TestMachineCountsOfBodies(t *testing.T) {
	cases := []counts{
		{"p(X) :- q(X). q(a).", "p(Y)", 6, 0, 2},                             // getvar putval execute getconst proceed stop
		{"p :- q(X, X, _, f(X, _, c), 1). q(_, _, _, _, _).", "p", 11, 0, 6}, // putvar putval putvoid putstruct setval setvoid setconst putconst execute
		{"p :- q(f(X), X). q(_, _).", "p", 6, 0, 2},                          // putstruct setvar putval execute
		{"p :- q(f(g(a))). q(_).", "p", 7, 0, 4},                             // putstruct setconst putstruct setval execute
		{"p(X) :- q(X), q(X). q(_).", "p(1)", 10, 0, 2},                      // allocate getvar putval call proceed putval deallocate execute proceed stop
		{"p :- q(X), r(X). q(a). r(a).", "p", 11, 0, 1},                      // allocate putvar call getconst proceed putval deallocate execute getconst proceed stop
		{"p :- q(X), r(X). q(a). r(b).", "p", 9, 0, 1},                       //
		{"p :- X = a, q, r(X). q. r(a).", "p", 12, 0, 1},                     // allocate putvar putconst builtin call proceed putval deallocate execute getconst proceed stop
		{"p :- q, true. q.", "p", 3, 0, 0},                                   // true is nothing: execute proceed stop
		{"p :- true.", "p", 2, 0, 0},                                         // proceed stop
		{"p :- fail.", "p", 1, 0, 0},                                         // builtin
		{"p :- !.", "p", 4, 0, 0},                                            // level cut proceed stop
		{"p(X) :- X == a, write(X).", "p(a)", 8, 0, 2},                       // getvar putval putconst builtin putval builtin proceed stop
		{"p(X) :- X == a, write(X).", "p(b)", 4, 0, 2},                       //
		{"p(X) :- functor(X, f, 2).", "p(X)", 7, 0, 5},                       // getvar putval putconst putconst builtin, with three cells
		{"p(X) :- X =.. [a, Y, Y].", "p(X)", 14, 0, 14},                      // getvar putval, three pairs of three cells and three instructions each, builtin with a(Y, Y)
		{"p(X, Y) :- copy_term(X, Y).", "p(A, B)", 7, 0, 4},                  // a new variable alone is a cell
		{"p(X, Y) :- copy_term(X, Y).", "p(f(A, A), B)", 7, 0, 9},            //
		{"p(X) :- arg(1, X, Y), q(Y). q(_).", "p(f(g(a)))", 9, 0, 9},         // Y is a cell, and the argument is put again: two
		{"p(X) :- length(X, 3).", "p(X)", 6, 0, 11},                          // three pairs
		{"p :- q(X), q(X), q(X). q(_).", "p", 12, 0, 1},                      // allocate putvar call proceed putval call proceed putval deallocate execute proceed stop
		{"p :- halt.", "p", 1, 0, 0},                                         // execute
		{"p :- throw(a).", "p", 2, 0, 0},                                     // putconst execute
		{"p :- missing.", "p", 1, 0, 0},                                      //
		{"p :- X is a + 1, q.", "p", 5, 0, 4},                                // putvar putstruct setconst setconst builtin
	}
	wantCounts(t, true, cases)
	wantCounts(t, false, cases)
}

func TestMachineCountsOfChoices(t *testing.T) {
	cases := []counts{
		{"p. p. p.", "p", 9, 1, 0},                                // try proceed stop, retry proceed stop, trust proceed stop
		{"p. p :- fail. p.", "p", 8, 1, 0},                        // the second one: retry builtin
		{"p :- q, q. q. q.", "p", 22, 2, 0},                       // allocate call try proceed deallocate execute try proceed stop, trust proceed stop, trust proceed deallocate ..
		{"p :- q, !. q. q. p.", "p", 10, 2, 0},                    // try, allocate level call try proceed cut deallocate proceed stop, and no trust
		{":- dynamic d/0.", "d", 0, 0, 0},                         // no clauses: it fails
		{":- dynamic d/1. d(1). d(2).", "d(X)", 6, 1, 2},          // getconst proceed stop, twice: no tries
		{":- dynamic d/1. d(1).", "d(X)", 3, 1, 2},                // a choice point even for one
		{":- dynamic d/1. d(1). d(2). d(3).", "d(2)", 5, 1, 2},    // getconst, getconst proceed stop, getconst
		{"", "between(1, 3, X)", 3, 1, 4},                         // a stop each
		{"", "between(3, 3, X)", 1, 1, 4},                         //
		{"", "between(3, 2, X)", 0, 0, 4},                         //
		{"", "between(1, 3, 2)", 1, 0, 4},                         //
		{"", "catch(true, _, true)", 2, 1, 4},                     // uncatch stop
		{"", "catch(throw(f(X)), f(a), true)", 1, 1, 12},          // the ball is two cells more
		{"", "catch(throw(f(X)), f(a), fail)", 0, 1, 12},          //
		{"", "catch(throw(a), b, true)", 0, 1, 6},                 //
		{"p. p.", "catch(p, _, true)", 8, 2, 4},                   // try proceed uncatch stop, trust proceed uncatch stop
		{"", "assertz(p(1))", 1, 0, 4},                            //
		{"", "assertz((p(1, f(X), a) :- b))", 1, 0, 11},           //
		{":- dynamic d/1. d(1).", "retract(d(X))", 1, 1, 9},       // :- of d(1) and true is five cells
		{":- dynamic d/1. d(1). d(2).", "retract(d(X))", 2, 1, 9}, //
		{":- dynamic d/1. d(1).", "retract(d(2))", 0, 1, 9},       //
		{"", "phrase([a], X)", 1, 0, 12},                          // X = [a]: three cells and three, behind six
		{"", "phrase([], [])", 1, 0, 6},                           // [] = []
		{"", "findall(X, fail, L)", 1, 0, 4},                      //
		{"q(1). q(2).", "findall(X, q(X), L)", 9, 1, 12},          // try getconst proceed stop, trust getconst proceed stop; stop; two pairs
		{"q(1). q(2).", "findall(X - Y, q(X), L)", 9, 1, 21},      // nine cells, then two pairs with three cells in each
	}
	wantCounts(t, true, cases)
	wantCounts(t, false, cases)
}

func TestMachineCountsOfSwitches(t *testing.T) {
	const keys = "p(a, 1). p(b, 2). p(X, 3). p(f(_), 4). p(1, 5). p(b, 6)."
	wantCounts(t, true, []counts{
		{keys, "p(a, X)", 9, 1, 3},     // try getconst getconst proceed stop, trust getconst proceed stop
		{keys, "p(b, X)", 14, 1, 3},    // so with a retry between
		{keys, "p(c, X)", 3, 0, 3},     // getconst proceed stop
		{keys, "p(f(a), X)", 10, 1, 5}, // try getconst proceed stop, trust getstruct unifyvoid getconst proceed stop
		{keys, "p(f(a, b), X)", 3, 0, 6},
		{keys, "p(1, X)", 9, 1, 3},
		{keys, "p(Y, X)", 30, 1, 5},
		{"p(a). p(b).", "p(c)", 1, 0, 2}, // the fail at 0
		{"p(a). p(b).", "p(b)", 3, 0, 2},
	})
	wantCounts(t, false, []counts{
		{"p(a). p(b).", "p(c)", 4, 1, 2}, // try getconst trust getconst
		{"p(a). p(b).", "p(b)", 6, 1, 2},
		{"p(a). p(b).", "p(a)", 6, 1, 2},
	})
}

func TestMachineCountsOfConstructs(t *testing.T) {
	cases := []counts{
		{"", "X = 1 ; X = 2", 17, 1, 9},         // getvar putval execute; try getvar putval putconst builtin proceed stop; trust ..
		{"", "true, true", 2, 0, 3},             // proceed stop
		{"", "!", 4, 0, 0},                      // level cut proceed stop
		{"", "\\+ fail", 7, 1, 2},               // execute; try level builtin; trust proceed stop
		{"", "\\+ true", 5, 1, 2},               // execute; try level cut builtin
		{"", "true -> true", 5, 0, 3},           // execute; level cut proceed stop
		{"", "(true -> true ; true)", 6, 1, 6},  // execute; try level cut proceed stop
		{"", "(fail -> true ; true)", 7, 1, 6},  // execute; try level builtin; trust proceed stop
		{"", "once(true)", 5, 0, 2},             //
		{"", "call(call(call(true)))", 1, 0, 6}, // a call is no step
		{"", "call(=, X, 1)", 1, 0, 4},          //
	}
	wantCounts(t, true, cases)
	wantCounts(t, false, cases)
}

func TestMachineCellsAtFirst(t *testing.T) {
	for query, want := range map[string]int{"a": 0, "X": 1, "7": 0, "f(X)": 2, "f(X, X)": 3, "f(g(X), Y, [])": 6} {
		o := ran(t, "", query, 0, 10, true)
		if o.Code != impl.CodeMore || o.Cells != want || o.Steps != 0 || o.Choices != 0 || len(o.Answers) != 0 {
			t.Errorf("%s: %s, want %d cells", query, showOutcome(o), want)
		}
	}
}
