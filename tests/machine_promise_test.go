package tests

import (
	"fmt"
	"strings"
	"testing"

	"loop.example/s00095/impl"
)

// wantSameIndexed asks promise 15 of a run, and answers the runs with switches and without.
func wantSameIndexed(t *testing.T, p impl.Program, query []impl.Cell, most int) (with impl.Outcome, without impl.Outcome) {
	t.Helper()
	with = impl.RunMachine(impl.DefaultOps(), p, query, most, impl.MaxFuel, true)
	without = impl.RunMachine(impl.DefaultOps(), p, query, most, impl.MaxFuel, false)
	for _, o := range []impl.Outcome{with, without} {
		switch o.Code {
		case impl.CodeFuel, impl.CodeMemory, impl.CodeLimit, impl.CodeCyclic:
			return with, without
		}
	}
	said := func(o impl.Outcome) string {
		return showOutcome(impl.Outcome{Code: o.Code, Answers: o.Answers, Ball: o.Ball, Out: o.Out})
	}
	if said(with) != said(without) || with.Steps > without.Steps || with.Choices > without.Choices {
		t.Errorf("%s ?- %s:\n with %.700s\n without %.700s", impl.ShowProgram(impl.DefaultOps(), p), impl.WriteTerm(impl.DefaultOps(), query, nil, true), showOutcome(with), showOutcome(without))
	}
	return with, without
}

// firstArguments differ in name, constant or sort.
var firstArguments = []string{"X", "a", "b", "f", "1", "2", "-1", "[]", "f(X)", "f(a)", "f(b)", "f(X, Y)", "g(X)", "[X]", "[a|X]", "'1'", "f(f(X))", "0"}

func TestMachineIndexedByFirstArguments(t *testing.T) {
	t.Parallel()
	fewer := 0
	for i, first := range firstArguments {
		for k, second := range firstArguments {
			third := firstArguments[(i*5+k*3)%len(firstArguments)]
			p := built(t, fmt.Sprintf("p(%s, 1). p(%s, 2) :- write(x). p(%s, 3) :- !. p(%s, 4).", first, second, third, first))
			for _, asked := range firstArguments {
				with, without := wantSameIndexed(t, p, clauseTerm("p("+asked+", Z)"), impl.MaxAnswers)
				if with.Steps < without.Steps && with.Choices < without.Choices {
					fewer++
				}
			}
		}
	}
	if fewer < 1000 {
		t.Errorf("only %d runs have fewer steps and choices", fewer)
	}
}

func TestMachineIndexedPrograms(t *testing.T) {
	t.Parallel()
	d := dice(115)
	ended := 0
	for range 300 {
		p := built(t, mixedClauses(&d))
		for _, query := range []string{"p(X, Y)", "p(f(Z), X)", "p(a, 1)", "w(f(X)), p(X, Y)", mixedGoalText(&d, 3)} {
			with, _ := wantSameIndexed(t, p, clauseTerm(query), 1+d.below(20))
			ended += boolNumber(with.Code == impl.CodeOK || with.Code == impl.CodeError || with.Code == impl.CodeMore)
		}
	}
	if ended < 1000 {
		t.Errorf("only %d runs come to their end", ended)
	}
}

// promiseRuns end in all ways.
func promiseRuns() []runs {
	return []runs{
		{"", "true", ""},
		{"", "fail", ""},
		{"p(1). p(2). p(3).", "p(X), write(X)", ""},
		{"p(a, 1). p(b, 2). p(X, 3).", "p(b, X), write(X), nl", ""},
		{"app([], L, L). app([H|T], L, [H|R]) :- app(T, L, R).", "app(X, Y, [1, 2, 3]), write(X)", ""},
		{"p(1). p(2).", "p(X), write(X), p(Y), write(Y), Y > 1", ""},
		{"p(1). p(2).", "p(X), write(X), X > 1, throw(a(X))", ""},
		{"p(1). p(2).", "p(X), write(X), X > 1, halt", ""},
		{"p(1). p(2).", "p(X) ; write(x), X = f(X)", ""},
		{"p(1). p(2).", "findall(X, (p(X), write(X)), L), write(L)", ""},
		{"p(1). p(2).", "catch((p(X), write(X), X > 1, throw(a)), a, write(b)), p(Y)", ""},
		{":- dynamic d/1. d(1).", "d(X), write(X), Y is X + 1, assertz(d(Y)), d(Z), write(Z)", ""},
		{":- dynamic d/1. d(1). d(2).", "retract(d(X)), write(X) ; d(Y)", ""},
		{"", "between(1, 4, X), write(X), (X > 2 -> true ; fail)", ""},
		{"s --> [a], s. s --> [].", "phrase(s, [a, a, b], X), write(X)", ""},
		{"", "length(L, 500), write(a), X = [L|L]", ""},
		{"p(X) :- write(X), nl, Y is X + 1, p(Y). p(X) :- X > 100.", "between(1, 2, Z), (Z = 1 ; Z > 1, p(1))", ""},
		{"", "X", ""},
	}
}

// wantFuelToAdd asks of runs with every amount of fuel that those with less are the beginning of those with more.
func wantFuelToAdd(t *testing.T, what string, run func(fuel int) impl.Outcome) {
	t.Helper()
	whole := run(400)
	before := impl.Outcome{}
	for fuel := 0; fuel <= min(whole.Steps+2, 400); fuel++ {
		o := run(fuel)
		if !isBeginning(before, o) || !isBeginning(o, whole) || o.Choices > whole.Choices || o.Cells > whole.Cells {
			t.Errorf("%s: %d steps: %s", what, fuel, showOutcome(o))
		}
		if fuel < whole.Steps && (o.Code != impl.CodeFuel || o.Steps != fuel || len(o.Ball) > 0) {
			t.Errorf("%s: %d of %d steps: %s", what, fuel, whole.Steps, showOutcome(o))
		}
		if fuel >= whole.Steps && showOutcome(o) != showOutcome(whole) {
			t.Errorf("%s: %d steps: %s, want %s", what, fuel, showOutcome(o), showOutcome(whole))
		}
		before = o
	}
}

// wantMostToAdd asks the same of runs that are asked for any number of answers.
func wantMostToAdd(t *testing.T, what string, run func(most int) impl.Outcome) {
	t.Helper()
	whole := run(impl.MaxAnswers)
	before := impl.Outcome{}
	for most := range len(whole.Answers) + 3 {
		o := run(most)
		if !isBeginning(before, o) || !isBeginning(o, whole) || o.Steps > whole.Steps {
			t.Errorf("%s: %d answers: %s", what, most, showOutcome(o))
		}
		if most <= len(whole.Answers) && (o.Code != impl.CodeMore || len(o.Answers) != most || len(o.Ball) > 0) {
			t.Errorf("%s: %d answers: %s", what, most, showOutcome(o))
		}
		if most > len(whole.Answers) && showOutcome(o) != showOutcome(whole) {
			t.Errorf("%s: %d answers: %s, want %s", what, most, showOutcome(o), showOutcome(whole))
		}
		before = o
	}
}

func TestMachineFuel(t *testing.T) {
	t.Parallel()
	for _, c := range promiseRuns() {
		for _, indexed := range []bool{true, false} {
			wantFuelToAdd(t, c.program+" ?- "+c.query, func(fuel int) impl.Outcome {
				return ran(t, c.program, c.query, impl.MaxAnswers, fuel, indexed)
			})
		}
	}
}

func TestMachineMost(t *testing.T) {
	for _, c := range promiseRuns() {
		for _, indexed := range []bool{true, false} {
			wantMostToAdd(t, c.program+" ?- "+c.query, func(most int) impl.Outcome {
				return ran(t, c.program, c.query, most, 400, indexed)
			})
		}
	}
}

// Fuel is looked at ahead of an instruction, so that what comes to its end with the last step has its own end.
func TestMachineFuelEdges(t *testing.T) {
	cases := []struct {
		program string
		query   string
		most    int
		fuel    int
		want    string
	}{
		{"", "true", 2, 0, "fuel"},
		{"", "true", 2, 1, "yes | no"},
		{"", "true", 1, 1, "yes | more"},
		{"", "true", 1, 0, "fuel"},
		{"", "true", 0, 0, "more"},
		{"", "X", 0, 0, "more"},
		{"", "halt", 0, 0, "more"},
		{"", "halt", 1, 0, "halt"},
		{"", "fail", 1, 0, "no"},
		{"", "throw(a)", 1, 0, "ball a"},
		{"", "X", 1, 0, "ball error(instantiation_error,call/1)"},
		{"", "a", 1, 0, "ball error(existence_error(procedure,a/0),a/0)"},
		{"", "X = f(X)", 1, 0, "cyclic"},
		{"", "write(a)", 1, 0, "fuel | a"},
		{"", "write(a)", 1, 1, "yes | more | a"},
		{"", "catch(true, X, true)", 1, 1, "fuel"},
		{"", "catch(true, X, true)", 1, 2, "_0 | more"},
		{"p(a). p(b).", "p(c)", 1, 0, "fuel"},
		{"p(a). p(b).", "p(c)", 1, 1, "no"},
		{"p(a). p(b).", "p(b)", 2, 2, "fuel"},
		{"p(a). p(b).", "p(b)", 2, 3, "yes | no"},
		{"p :- p.", "p", 1, impl.MaxFuel, "fuel"},
		{"p. p :- p.", "p", 100, 0, "fuel"},
		{"", "between(1, 3, X)", 3, 3, "1; 2; 3 | more"},
		{"", "between(1, 3, X)", 4, 3, "1; 2; 3 | no"},
		{"", "between(1, 3, X)", 3, 2, "1; 2 | fuel"},
		{"", "findall(x, true, L)", 1, 1, "fuel"},
		{"", "findall(x, true, L)", 1, 2, "[x] | more"},
		{"", "findall(x, fail, L)", 1, 0, "fuel"},
	}
	for _, c := range cases {
		if o := ran(t, c.program, c.query, c.most, c.fuel, true); told(o) != c.want || o.Steps > c.fuel {
			t.Errorf("%s ?- %s, %d answers, %d steps: %s, want %s", c.program, c.query, c.most, c.fuel, told(o), c.want)
		}
	}
}

// As many answers as may be asked for, and as much fuel.
func TestMachineMostAndFuelAtTheirBounds(t *testing.T) {
	o := ran(t, "", "between(1, 200, X)", impl.MaxAnswers, impl.MaxFuel, true)
	if o.Code != impl.CodeMore || len(o.Answers) != impl.MaxAnswers || o.Steps != impl.MaxAnswers {
		t.Error(showOutcome(o))
	}
	o = ran(t, "p :- p.", "p", 1, impl.MaxFuel, true)
	if o.Code != impl.CodeFuel || o.Steps != impl.MaxFuel || o.Cells != 0 {
		t.Error(showOutcome(o))
	}
	o = ran(t, "", "between(1, 100, X)", impl.MaxAnswers, impl.MaxFuel, true)
	if o.Code != impl.CodeMore || answersText(o.Answers) != strings.Join(strings.Fields(strings.Trim(fmt.Sprint(countTo(100)), "[]")), "; ") {
		t.Error(showOutcome(o))
	}
}

func countTo(n int) []int {
	var all []int
	for i := range n {
		all = append(all, i+1)
	}
	return all
}
