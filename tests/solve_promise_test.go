package tests

import (
	"fmt"
	"strings"
	"testing"

	"loop.example/s00095/impl"
)

// isCutOff answers whether a run ends by fuel, memory, bounds or a cyclic term.
func isCutOff(o impl.Outcome) bool {
	switch o.Code {
	case impl.CodeFuel, impl.CodeMemory, impl.CodeLimit, impl.CodeCyclic:
		return true
	}
	return false
}

// wantSameMachine asks promises 14 and 16 of a query, and answers the search for it.
func wantSameMachine(t *testing.T, p impl.Program, query string, most int, fuel int) impl.Outcome {
	t.Helper()
	asked := clauseTerm(query)
	search := impl.Solve(impl.DefaultOps(), p, asked, most, fuel)
	said := func(o impl.Outcome) string {
		return showOutcome(impl.Outcome{Code: o.Code, Answers: o.Answers, Ball: o.Ball, Out: o.Out})
	}
	for _, indexed := range []bool{true, false} {
		run := impl.RunMachine(impl.DefaultOps(), p, asked, most, fuel, indexed)
		holds := isCutOff(search) || said(search) == said(run)
		if isCutOff(run) {
			holds = isCutOff(search) || run.Code == impl.CodeCyclic || isBeginning(run, search)
		}
		if !holds {
			t.Errorf("%s ?- %s, %d answers, %d steps, indexed %v:\n search %.1000s\nmachine %.1000s", impl.ShowProgram(impl.DefaultOps(), p), query, most, fuel, indexed, showOutcome(search), showOutcome(run))
		}
	}
	return search
}

func TestSolveAsMachine(t *testing.T) {
	t.Parallel()
	d := dice(123)
	p := built(t, machineFacts)
	codes := map[int]int{}
	for range 4000 {
		codes[wantSameMachine(t, p, mixedGoalText(&d, 2+d.below(4)), d.below(10), 1000).Code]++
		if t.Failed() {
			return
		}
	}
	wantOften(t, codes, impl.CodeOK, impl.CodeError, impl.CodeMore)
}

func TestSolveAsMachinePrograms(t *testing.T) {
	t.Parallel()
	d := dice(124)
	codes := map[int]int{}
	for range 500 {
		p := built(t, mixedClauses(&d))
		for _, query := range []string{"p(X, Y)", "p(f(Z), X)", "p(a, 1)", "w(f(X)), p(X, Y)", "v(X, Y, Z)", "findall(X - Y, p(X, Y), L)", mixedGoalText(&d, 3)} {
			codes[wantSameMachine(t, p, query, 1+d.below(20), 2000).Code]++
		}
		if t.Failed() {
			return
		}
	}
	wantOften(t, codes, impl.CodeOK, impl.CodeError, impl.CodeMore)
}

func TestSolveAsMachineFirstArguments(t *testing.T) {
	t.Parallel()
	for i, first := range firstArguments {
		for k, second := range firstArguments {
			third := firstArguments[(i*5+k*3)%len(firstArguments)]
			p := built(t, fmt.Sprintf("p(%s, 1). p(%s, 2) :- write(x). p(%s, 3) :- !. p(%s, 4).", first, second, third, first))
			for n := range 6 {
				wantSameMachine(t, p, "p("+firstArguments[(i+k+n*3)%len(firstArguments)]+", Z)", impl.MaxAnswers, 1000)
			}
		}
	}
}

// wholePrograms are such as are written, with all that a run may do in each.
func wholePrograms() []runs {
	const (
		lists   = "app([], L, L). app([H|T], L, [H|R]) :- app(T, L, R). nrev([], []). nrev([H|T], R) :- nrev(T, S), app(S, [H], R). mem(X, [X|_]). mem(X, [_|T]) :- mem(X, T). sel(X, [X|T], T). sel(X, [H|T], [H|R]) :- sel(X, T, R). perm([], []). perm(L, [H|T]) :- sel(H, L, R), perm(R, T). "
		queens  = lists + "range(N, N, [N]) :- !. range(I, N, [I|T]) :- I < N, J is I + 1, range(J, N, T). queens(N, Q) :- range(1, N, L), perm(L, Q), safe(Q). safe([]). safe([H|T]) :- free(H, 1, T), safe(T). free(_, _, []). free(Q, D, [H|T]) :- Q =\\= H + D, Q =\\= H - D, E is D + 1, free(Q, E, T). "
		memory  = ":- dynamic fib/2. fib(0, 0). fib(1, 1). f(N, F) :- fib(N, F), !. f(N, F) :- A is N - 1, B is N - 2, f(A, X), f(B, Y), F is X + Y, asserta(fib(N, F)). "
		reckon  = "expr(X) --> term(Y), rest(Y, X). rest(Y, X) --> \"+\", !, term(Z), {W is Y + Z}, rest(W, X). rest(X, X) --> []. term(X) --> [C], {C >= 48, C =< 57, X is C - 48}. term(X) --> \"(\", expr(X), \")\". "
		checks  = "check(X) :- catch(test(X), E, (writeq(E), nl, fail)), !. check(_) :- write(bad), nl. test(X) :- X > 2, throw(great(X)). test(X) :- atom_length(X, N), N < 3. test(X) :- missing(X). "
		graph   = "e(a, b). e(b, c). e(c, a). e(c, d). path(X, X, _, [X]). path(X, Y, V, [X|P]) :- e(X, Z), \\+ mem(Z, V), path(Z, Y, [Z|V], P). " + lists
		counter = ":- dynamic n/1. n(0). next(N) :- retract(n(N)), M is N + 1, assertz(n(M)). loop(0) :- !. loop(K) :- next(N), write(N), tab(1), J is K - 1, loop(J). "
	)
	return []runs{
		{lists, "nrev([1, 2, 3, 4, 5, 6, 7, 8], X)", ""},
		{lists, "perm([a, b, c, d], X)", ""},
		{lists, "findall(X - Y, app(X, Y, [1, 2, 3]), L), length(L, N)", ""},
		{lists, "forall(mem(X, [1, 2, 3]), (mem(Y, [2, 3, 4]), Y > X)), \\+ mem(9, [1, 2])", ""},
		{queens, "queens(5, Q)", ""},
		{memory, "f(15, F), findall(N, fib(N, _), L)", ""},
		{reckon, "phrase(expr(X), \"1+(2+3)+4\")", ""},
		{reckon, "phrase(expr(X), \"1+(2+3\", R), atom_codes(A, R)", ""},
		{checks, "mem(X, [1, 2, 3, a, f(b), Y]), check(X), fail ; true", ""},
		{checks + lists, "mem(X, [1, 2, 3, a, f(b), Y]), check(X), fail ; true", ""},
		{graph, "path(a, d, [a], P)", ""},
		{graph, "findall(X - P, path(a, X, [a], P), L)", ""},
		{counter, "loop(5), n(X)", ""},
		{counter, "catch((loop(3), throw(stop)), stop, true), n(X), (n(_) -> true ; halt)", ""},
		{counter, "next(X), next(Y), (X > Y ; write(fewer), halt)", ""},
		{lists, "X = f(A, B, _), copy_term(X, Y), X = f(1, 2, 3), Y =.. L, msort([c, B, A, Z, \"x\"], M)", ""},
		{"", "findall(X, (between(1, 5, Y), X is Y * Y, (X > 10 -> true ; X < 5)), L), sort(0, L)", ""},
	}
}

func TestSolveAsMachineWholePrograms(t *testing.T) {
	t.Parallel()
	for _, c := range append(append(wholePrograms(), promiseRuns()...), memoryRuns()...) {
		p := built(t, c.program)
		for _, most := range []int{0, 1, 2, 5, impl.MaxAnswers} {
			wantSameMachine(t, p, c.query, most, impl.MaxFuel)
		}
	}
}

func TestSolveFuel(t *testing.T) {
	t.Parallel()
	for _, c := range append(promiseRuns(), wholePrograms()...) {
		p := built(t, c.program)
		wantFuelToAdd(t, c.program+" ?- "+c.query, func(fuel int) impl.Outcome {
			return impl.Solve(impl.DefaultOps(), p, clauseTerm(c.query), impl.MaxAnswers, fuel)
		})
	}
}

func TestSolveMost(t *testing.T) {
	t.Parallel()
	for _, c := range append(promiseRuns(), wholePrograms()...) {
		p := built(t, c.program)
		wantMostToAdd(t, c.program+" ?- "+c.query, func(most int) impl.Outcome {
			return impl.Solve(impl.DefaultOps(), p, clauseTerm(c.query), most, 2000)
		})
	}
}

// Fuel is looked at ahead of a goal, so that what comes to its end with the last step has its own end.
func TestSolveFuelEdges(t *testing.T) {
	cases := []struct {
		program string
		query   string
		most    int
		fuel    int
		want    string
	}{
		{"", "true", 2, 0, "fuel"},
		{"", "true", 2, 1, "fuel"},
		{"", "true", 2, 2, "yes | no"},
		{"", "true", 1, 2, "yes | more"},
		{"", "true", 0, 0, "more"},
		{"", "X", 0, 0, "more"},
		{"", "halt", 0, 0, "more"},
		{"", "halt", 1, 1, "fuel"},
		{"", "halt", 1, 2, "halt"},
		{"", "fail", 1, 1, "fuel"},
		{"", "fail", 1, 2, "no"},
		{"", "X", 1, 0, "fuel"},
		{"", "X", 1, 1, "ball error(instantiation_error,call/1)"},
		{"", "a", 1, 2, "ball error(existence_error(procedure,a/0),a/0)"},
		{"", "throw(a)", 1, 1, "fuel"},
		{"", "throw(a)", 1, 2, "ball a"},
		{"", "X = f(X)", 1, 1, "fuel"},
		{"", "X = f(X)", 1, 2, "cyclic"},
		{"", "write(a)", 1, 2, "yes | more | a"},
		{"", "write(a), true", 1, 3, "fuel | a"},
		{"", "\\+ true", 1, 3, "fuel"}, // the fail behind it is a goal
		{"", "\\+ true", 1, 4, "no"},
		{"", "\\+ fail", 1, 3, "yes | more"}, // but nothing comes behind this
		{"", "true -> true", 1, 3, "fuel"},
		{"", "true -> true", 1, 4, "yes | more"},
		{"", "catch(true, X, true)", 1, 3, "fuel"},
		{"", "catch(true, X, true)", 1, 4, "_0 | more"},
		{"", "catch(throw(a), X, true)", 1, 4, "fuel"},
		{"", "catch(throw(a), X, true)", 1, 6, "a | more"},
		{"p(a). p(b).", "p(c)", 1, 1, "fuel"},
		{"p(a). p(b).", "p(c)", 1, 2, "no"},
		{"p(a). p(b).", "p(X)", 2, 3, "a | fuel"},
		{"p(a). p(b).", "p(X)", 2, 4, "a; b | more"},
		{"", "between(1, 3, X)", 3, 2, "1; 2; 3 | more"},
		{"", "between(1, 3, X)", 4, 2, "1; 2; 3 | no"},
		{"", "findall(x, true, L)", 1, 3, "fuel"},
		{"", "findall(x, true, L)", 1, 4, "[x] | more"},
		{"", "phrase([a], L)", 1, 3, "fuel"},
		{"", "phrase([a], L)", 1, 4, "[a] | more"},
		{"p :- p.", "p", 1, impl.MaxFuel, "fuel"},
	}
	for _, c := range cases {
		o := solved(t, c.program, c.query, c.most, c.fuel)
		if told(o) != c.want || o.Steps > c.fuel || o.Code == impl.CodeFuel && o.Steps != c.fuel {
			t.Errorf("%s ?- %s, %d answers, %d steps: %s, want %s", c.program, c.query, c.most, c.fuel, showOutcome(o), c.want)
		}
	}
}

// As many answers as may be asked for, and as much fuel.
func TestSolveMostAndFuelAtTheirBounds(t *testing.T) {
	o := solved(t, "", "between(1, 200, X)", impl.MaxAnswers, impl.MaxFuel)
	if o.Code != impl.CodeMore || len(o.Answers) != impl.MaxAnswers || o.Steps != 2 {
		t.Error(showOutcome(o))
	}
	o = solved(t, "p :- p.", "p", 1, impl.MaxFuel)
	if o.Code != impl.CodeFuel || o.Steps != impl.MaxFuel || o.Cells != 0 || o.Choices != 1 {
		t.Error(showOutcome(o))
	}
}

// What the machine said by the time that its fuel was used up is what the search says first.
func TestSolveOfMachineWithoutFuel(t *testing.T) {
	t.Parallel()
	for _, c := range append(promiseRuns(), wholePrograms()...) {
		p := built(t, c.program)
		whole := impl.Solve(impl.DefaultOps(), p, clauseTerm(c.query), impl.MaxAnswers, impl.MaxFuel)
		if isCutOff(whole) {
			continue
		}
		for fuel := 0; fuel < 4000; fuel += 1 + fuel/10 {
			if o := impl.RunMachine(impl.DefaultOps(), p, clauseTerm(c.query), impl.MaxAnswers, fuel, fuel%2 == 0); !isBeginning(o, whole) {
				t.Errorf("%s ?- %s: %d steps: %s, want the beginning of %s", c.program, c.query, fuel, showOutcome(o), showOutcome(whole))
			}
		}
	}
}

// So is what it said before its memory was used up, or a limit of code broken.
func TestSolveOfMachineWithoutMemory(t *testing.T) {
	t.Parallel()
	const facts = fillFacts + "wrap(0, x). wrap(N, f(T)) :- N > 0, M is N - 1, wrap(M, T). "
	for goal, code := range map[string]int{
		"deep(3500, true)": impl.CodeMemory,
		"fill(1100)":       impl.CodeMemory,
		"\\+ (between(1, 3000, N), assertz(p(a, b, c, d, e, f, g, h, i, j, k, l, N)), fail)":  impl.CodeMemory,
		"\\+ (between(1, 3000, N), call((N = 1, nl ; N = 0, nl ; N = -1, nl ; fail)), N > 1)": impl.CodeMemory,
		"length(L, 21), call((L = [1|_] ; fail))":                                             impl.CodeLimit,
		"length(L, 21), assertz((h :- L = [1|_] ; a))":                                        impl.CodeLimit,
		"wrap(300, T), assertz((h :- put(T)))":                                                impl.CodeLimit,
		"wrap(300, T), call((put(T), true))":                                                  impl.CodeLimit,
		"length(L, 498), call((put(f(L, L)), true2))":                                         impl.CodeLimit,
	} {
		p := built(t, facts+"asked(X) :- (X = 1 ; write(a), X = 2 ; write(b), X = 3, "+goal+" ; write(c), X = 4).")
		whole := impl.Solve(impl.DefaultOps(), p, clauseTerm("asked(X)"), impl.MaxAnswers, impl.MaxFuel)
		if answersText(whole.Answers) != "1; 2; 3; 4" || whole.Code != impl.CodeOK || !strings.HasSuffix(string(whole.Out), "c") {
			t.Errorf("%s: the search says %.300s", goal, told(whole))
		}
		for _, indexed := range []bool{true, false} {
			o := impl.RunMachine(impl.DefaultOps(), p, clauseTerm("asked(X)"), impl.MaxAnswers, impl.MaxFuel, indexed)
			if o.Code != code || answersText(o.Answers) != "1; 2" || !isBeginning(o, whole) {
				t.Errorf("%s, indexed %v: %.300s, the search says %.300s", goal, indexed, told(o), told(whole))
			}
		}
	}
	// A program that cannot be lowered or linked says nothing at all.
	for _, src := range programsBeyondLimits() {
		wantSameMachine(t, built(t, src), "X = 1 ; write(a)", 10, 100)
		if o := solvedAll(t, src, "X = 1 ; write(a)"); told(o) != "1; _0 | no | a" {
			t.Errorf("%.100s: %s", src, told(o))
		}
	}
}
