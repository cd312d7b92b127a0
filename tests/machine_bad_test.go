package tests

import (
	"math"
	"strings"
	"testing"

	"loop.example/s00095/impl"
)

// wantOnlyCode asks for a code, and nothing else, with switches and without.
func wantOnlyCode(t *testing.T, what string, ops []impl.Op, p impl.Program, query []impl.Cell, most int, fuel int, code int) {
	t.Helper()
	for _, indexed := range []bool{true, false} {
		if o := impl.RunMachine(ops, p, query, most, fuel, indexed); !isZeroBut(o, code) {
			t.Errorf("%.200s, indexed %v: %.300s, want only %d", what, indexed, showOutcome(o), code)
		}
	}
}

func TestMachineBadArguments(t *testing.T) {
	ops, p, query := impl.DefaultOps(), built(t, "p(1). p(2)."), clauseTerm("p(X)")
	for _, bad := range badTables() {
		wantOnlyCode(t, "a table", bad, p, query, 1, 100, impl.CodeBad)
	}
	for _, bad := range badTerms() {
		wantOnlyCode(t, "a query", ops, p, bad, 1, 100, impl.CodeBad)
	}
	for _, bad := range badPrograms() {
		wantOnlyCode(t, showProgram(bad), ops, bad, query, 1, 100, impl.CodeBad)
	}
	for _, bad := range []int{-1, impl.MaxAnswers + 1, math.MaxInt, math.MinInt} {
		wantOnlyCode(t, "so many answers", ops, p, query, bad, 100, impl.CodeBad)
	}
	for _, bad := range []int{-1, impl.MaxFuel + 1, math.MaxInt, math.MinInt} {
		wantOnlyCode(t, "so much fuel", ops, p, query, 1, bad, impl.CodeBad)
	}
	// A query that is not valid is so even where no answer is asked for.
	wantOnlyCode(t, "no query", ops, p, nil, 0, 0, impl.CodeBad)
	wantOnlyCode(t, "no table", nil, p, query, 0, 0, impl.CodeBad)
}

// badPrograms miss being valid in one way each.
func badPrograms() []impl.Program {
	all := []impl.Program{
		programWith(pred("p", 0), pred("p", 0)),
		programWith(pred("write", 1)),
		programWith(pred("$1", 1)),
		programWith(pred("call", 3)),
		programWith(pred(strings.Repeat("n", impl.MaxAtom+1), 1)),
		programWith(pred("p", -1)),
		programWith(pred("p", impl.MaxArity+1)),
		programWith(pred("p", 1, "p(a,b) :- true")),
		programWith(pred("p", 1, "q(a) :- true")),
		programWith(pred("p", 1, "p(a)")),
		programWith(pred("p", 1, "p(a) :- 1")),
		programWith(pred("p", 1, "p(a) :- X0")),
		programWith(pred("p", 1, "p(X1) :- true")),
		programWith(pred("p", 1, "p(a) :- once(b)")),
		programWith(impl.Pred{Name: []byte("p"), Clauses: [][]impl.Cell{nil}}),
		{Goals: goalTerms("1")},
		{Goals: goalTerms("once(a)")},
		{Goals: [][]impl.Cell{{}}},
		{Preds: emptyPreds(impl.MaxPreds + 1)},
	}
	for _, bad := range badTerms() {
		all = append(all, impl.Program{Preds: []impl.Pred{{Name: []byte("p"), Clauses: [][]impl.Cell{bad}}}}, impl.Program{Goals: [][]impl.Cell{bad}})
	}
	return all
}

// programsBeyondLimits are valid, but have no code.
func programsBeyondLimits() map[string]string {
	return map[string]string{
		"a new predicate of 21 arguments": "p :- (q(" + manyOf(20, ", ", numbered("X%d")) + "), r(X20) ; s).",
		"too many new predicates":         manyOf(151, " ", numbered("p%d :- (a ; b).")),
		"too many registers":              "p :- q(" + strings.Repeat("f(", 257) + "x" + strings.Repeat(")", 257) + ").",
	}
}

// A code of lowering or linking is that of the run, before anything of it.
func TestMachineProgramsBeyondLimits(t *testing.T) {
	ops, query := impl.DefaultOps(), atomTerm("true")
	for what, src := range programsBeyondLimits() {
		wantOnlyCode(t, what, ops, built(t, src), query, 1, 100, impl.CodeLimit)
		wantOnlyCode(t, what+", no answers", ops, built(t, src), query, 0, 0, impl.CodeLimit)
		wantOnlyCode(t, what+", not valid beside it", ops, built(t, src), nil, 1, 100, impl.CodeBad)
	}
	within := map[string]string{
		"a new predicate of 20 arguments": "p :- (q(" + manyOf(20, ", ", numbered("X%d")) + ") ; s).",
		"so many new predicates":          manyOf(150, " ", numbered("p%d :- (a ; b).")),
		"so many registers":               "p :- q(" + strings.Repeat("f(", 256) + "x" + strings.Repeat(")", 256) + ").",
	}
	for what, src := range within {
		if o := ranAll(t, src, "true"); told(o) != "yes | no" {
			t.Errorf("%s: %s", what, told(o))
		}
	}
}

// codeOfSize is a program that has so many instructions, the first three too.
func codeOfSize(size int) impl.Program {
	var p impl.Program
	for size -= 3; size > 0; {
		n := min(size, 900)
		name := "p" + strings.Repeat("x", len(p.Preds))
		p.Preds = append(p.Preds, impl.Pred{Name: []byte(name), Clauses: [][]impl.Cell{compTerm(":-", atomTerm(name), nlBody(n-1))}})
		size -= n
	}
	return p
}

// nlBody has a builtin so many times.
func nlBody(n int) []impl.Cell {
	if n == 0 {
		return atomTerm("true")
	}
	var body []impl.Cell
	for range n - 1 {
		body = append(body, compCell(",", 2), atomCell("nl"))
	}
	return append(body, atomCell("nl"))
}

func TestMachineProgramsAtMaxCode(t *testing.T) {
	ops := impl.DefaultOps()
	if o := impl.RunMachine(ops, codeOfSize(impl.MaxCode), atomTerm("true"), 1, 10, true); told(o) != "yes | more" {
		t.Error(told(o))
	}
	wantOnlyCode(t, "one more", ops, codeOfSize(impl.MaxCode+1), atomTerm("true"), 1, 10, impl.CodeLimit)
	full, almost := codeOfSize(impl.MaxCode), codeOfSize(impl.MaxCode-3)
	// There is no room for a clause that a run makes.
	for query, want := range map[string]string{"true": "yes | more", "call(nl)": "yes | more | \n", "(nl, nl)": "memory", "assertz(q)": "memory", "!": "memory"} {
		if o := impl.RunMachine(ops, full, clauseTerm(query), 1, 10, true); told(o) != want {
			t.Errorf("%s: %q, want %q", query, told(o), want)
		}
		if o := impl.RunMachine(ops, almost, clauseTerm(query), 1, 10, true); !strings.Contains(told(o), "yes | more") {
			t.Errorf("%s with room for three: %q", query, told(o))
		}
	}
}

// The table that is given is that with which terms are written.
func TestMachineWritesByTheTable(t *testing.T) {
	for _, ops := range goodTables() {
		x := clauseTerm("f(a, g(1, 2), 3 + 4 * -5, [x|Y], (a :- b, c))")
		want := string(impl.WriteTerm(ops, x, nil, true))
		o := impl.RunMachine(ops, impl.Program{}, compTerm("writeq", x), 1, 10, true)
		if o.Code != impl.CodeMore || string(o.Out) != want {
			t.Errorf("%q, want %q", o.Out, want)
		}
	}
}

// A term that is valid is a query, whatever it is.
func TestMachineTakesAnyQuery(t *testing.T) {
	for _, query := range validTerms() {
		for _, indexed := range []bool{true, false} {
			o := impl.RunMachine(impl.DefaultOps(), impl.Program{}, query, 3, 1000, indexed)
			if o.Code != impl.CodeError && o.Code != impl.CodeOK && o.Code != impl.CodeLimit {
				t.Errorf("%.100s: %s", showCells(query), told(o))
			}
		}
	}
	// The goals of a program play no part.
	p := impl.Program{Goals: goalTerms("write(a)", "halt", "throw(b)")}
	if o := impl.RunMachine(impl.DefaultOps(), p, atomTerm("true"), 2, 10, true); told(o) != "yes | no" {
		t.Error(told(o))
	}
}
