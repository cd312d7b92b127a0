package tests

import (
	"math"
	"testing"

	"loop.example/s00095/impl"
)

// wantBadSearch asks for CodeBad, and nothing else.
func wantBadSearch(t *testing.T, what string, ops []impl.Op, p impl.Program, query []impl.Cell, most int, fuel int) {
	t.Helper()
	if o := impl.Solve(ops, p, query, most, fuel); !isZeroBut(o, impl.CodeBad) {
		t.Errorf("%.200s: %.300s, want only %d", what, showOutcome(o), impl.CodeBad)
	}
}

func TestSolveBadArguments(t *testing.T) {
	ops, p, query := impl.DefaultOps(), built(t, "p(1). p(2)."), clauseTerm("p(X)")
	for _, bad := range badTables() {
		wantBadSearch(t, "a table", bad, p, query, 1, 100)
	}
	for _, bad := range badTerms() {
		wantBadSearch(t, "a query", ops, p, bad, 1, 100)
	}
	for _, bad := range badPrograms() {
		wantBadSearch(t, showProgram(bad), ops, bad, query, 1, 100)
	}
	for _, bad := range []int{-1, impl.MaxAnswers + 1, math.MaxInt, math.MinInt} {
		wantBadSearch(t, "so many answers", ops, p, query, bad, 100)
	}
	for _, bad := range []int{-1, impl.MaxFuel + 1, math.MaxInt, math.MinInt} {
		wantBadSearch(t, "so much fuel", ops, p, query, 1, bad)
	}
	// They are so even where no answer is asked for.
	wantBadSearch(t, "no query", ops, p, nil, 0, 0)
	wantBadSearch(t, "no table", nil, p, query, 0, 0)
	wantBadSearch(t, "no program", ops, badPrograms()[0], query, 0, 0)
	if o := impl.Solve(ops, p, query, impl.MaxAnswers, impl.MaxFuel); told(o) != "1; 2 | no" {
		t.Errorf("at the bounds: %s", told(o))
	}
	if o := impl.Solve(ops, p, query, 0, 0); told(o) != "more" || o.Steps != 0 || o.Choices != 0 || o.Cells != 1 {
		t.Errorf("at the bounds: %s", showOutcome(o))
	}
}

// What the machine has no code for can be searched all the same.
func TestSolveProgramsBeyondLimits(t *testing.T) {
	for what, src := range programsBeyondLimits() {
		if o := solvedAll(t, src, "true"); told(o) != "yes | no" {
			t.Errorf("%s: %s", what, told(o))
		}
	}
	if o := impl.Solve(impl.DefaultOps(), codeOfSize(impl.MaxCode+1), atomTerm("p"), 1, 10); o.Code != impl.CodeFuel || len(o.Out) == 0 {
		t.Error(told(o))
	}
}

func TestSolveWritesByTheTable(t *testing.T) {
	for _, ops := range goodTables() {
		x := clauseTerm("f(a, g(1, 2), 3 + 4 * -5, [x|Y], (a :- b, c))")
		want := string(impl.WriteTerm(ops, x, nil, true))
		o := impl.Solve(ops, impl.Program{}, compTerm("writeq", x), 1, 10)
		if o.Code != impl.CodeMore || string(o.Out) != want {
			t.Errorf("%q, want %q", o.Out, want)
		}
	}
}

// A term that is valid is a query, whatever it is.
func TestSolveTakesAnyQuery(t *testing.T) {
	for _, query := range validTerms() {
		o := impl.Solve(impl.DefaultOps(), impl.Program{}, query, 3, 1000)
		if o.Code != impl.CodeError && o.Code != impl.CodeOK && o.Code != impl.CodeLimit {
			t.Errorf("%.100s: %s", showCells(query), told(o))
		}
	}
	// The goals of a program play no part.
	p := impl.Program{Goals: goalTerms("write(a)", "halt", "throw(b)")}
	if o := impl.Solve(impl.DefaultOps(), p, atomTerm("true"), 2, 10); told(o) != "yes | no" {
		t.Error(told(o))
	}
}

func solveRunner(ops []impl.Op, p impl.Program, query []impl.Cell) impl.Outcome {
	return impl.Solve(ops, p, query, 10, 1000)
}

func TestSolveMemory(t *testing.T) {
	for _, c := range memoryRuns() {
		wantOwnMemory(t, c, solveRunner)
		wantOwnAnswers(t, c, solveRunner)
	}
}

// Searches know nothing of each other, and may be made at the same time.
func TestSolveSideBySide(t *testing.T) {
	p, query := built(t, machineFacts), clauseTerm("retract(d(X)), assertz(d(f(X))), e(Y, Z), write(X - Y - Z), nl")
	want := showOutcome(impl.Solve(impl.DefaultOps(), p, query, 10, 2000))
	done := make(chan string)
	for range 8 {
		go func() { done <- showOutcome(impl.Solve(impl.DefaultOps(), p, query, 10, 2000)) }()
	}
	for range 8 {
		if got := <-done; got != want {
			t.Errorf("got %s\nwant %s", got, want)
		}
	}
}
