package tests

import (
	"fmt"
	"strings"
	"testing"

	"loop.example/s00095/impl"
)

func TestClassesByExamples(t *testing.T) {
	for src, letters := range map[string]string{
		"p :- true": "", "p(a,f(b)) :- q(1)": "", "p(A) :- true": "v", "p(A,B) :- true": "vv", "p(f(g(A))) :- true": "v", "p :- q(A)": "v", "p :- q, r, s(A)": "v",
		"p(A,A) :- true": "t", "p(f(A),g(h(A))) :- true": "t", "p(f(A,A)) :- true": "t", "p(A) :- q(A)": "t", "p(A) :- q(f(A))": "t", "p(A) :- nl, q(A)": "t", "p(A) :- write(A), q": "t",
		"p(A) :- q, r(A)": "p", "p(f(A)) :- q, r(f(A))": "p", "p(A) :- q, nl, r(A)": "p", "p(A) :- q, write(A)": "p", "p :- q(A), r(A)": "p", "p :- q(A), write(A)": "p", "p :- write(A), q, write(A)": "p", "p :- write(A), q(A), r": "t",
		"p :- q(A,A), r": "t", "p :- q, r(A,A)": "t", "p :- q, r(f(A),A), s": "t", "p :- q, write(A), r(A)": "t", "p :- q, write(A), write(A)": "t", "p :- q, write(A), nl, write(A)": "t", "p :- q, write(A), r, write(A)": "p",
		"p(A,A) :- q(A), r(A,A)": "p", "p(A) :- q(A), r(A), s(A)": "p", "p(A) :- q(A), r, s": "t",
		"p(A,B,C,D) :- q(B,C), r(C,E), s(D,F), t(F)": "vtppvp", "p(A) :- B = A, q(B), r(C,D), write(D), s(C)": "ttpp", "p(f(A,B),C) :- q(C), r(B)": "vpt",
	} {
		wantClasses(t, src, clauseTerm(src), letters)
	}
}

func TestClassesWithChoices(t *testing.T) {
	for src, letters := range map[string]string{
		"p :- '$level'(A)": "v", "p :- '$mark'(A)": "v", "p :- '$cut'(A)": "v", "p :- '$level'(A), '$cut'(A)": "t", "p :- '$mark'(A), '$cut'(A)": "t", "p :- '$level'(A), q, '$cut'(A)": "p", "p :- q, '$level'(A), '$cut'(A)": "t",
		"p(A) :- '$level'(B), q(A), '$cut'(B), r": "tp", "p(A) :- '$level'(B), write(A), '$cut'(B), r": "tt", "p :- '$mark'(A), q(A)": "t", "p :- '$level'(A), '$mark'(B), q(B), '$cut'(A)": "pt", "p :- '$cut'(A), '$cut'(A)": "t",
		// With another number of arguments they are calls.
		"p(A) :- '$level', q(A)": "p", "p(A) :- '$level'(b,c), q(A)": "p", "p(A) :- '$mark', q(A)": "p", "p(A) :- '$mark'(b,c), q(A)": "p", "p(A) :- '$cut', q(A)": "p", "p(A) :- '$cut'(b,c), q(A)": "p", "p(A) :- '$other'(b), q(A)": "p",
	} {
		wantClasses(t, src, clauseTerm(src), letters)
	}
}

// goalOf is a goal of constants.
func goalOf(name string, arity int) []impl.Cell {
	if arity == 0 {
		return atomTerm(name)
	}
	return compTerm(name, manyItems(arity, atomTerm("c"))...)
}

// Behind an inline goal the chunk goes on, behind a call there is another.
func TestClassesTellInlineGoals(t *testing.T) {
	with := func(goal []impl.Cell) []impl.Cell {
		return compTerm(":-", compTerm("p", varTerm(0)), compTerm(",", goal, compTerm("q", varTerm(0))))
	}
	for name, arity := range builtinArities {
		wantClasses(t, name, with(goalOf(name, arity)), "t")
		for other := range impl.MaxArity + 1 {
			if goal := goalOf(name, other); other != arity {
				wantClasses(t, shape(goal), with(goal), "p")
			}
		}
	}
	for _, goal := range []string{"q", "call(a)", "call(a,b,c,d,e,f,g,h)", "findall(a,b,c)", "catch(a,b,c)", "throw(a)", "halt", "asserta(a)", "assertz(a)", "retract(a)", "between(1,2,3)", "phrase(a,b)", "phrase(a,b,c)", "[]", "{}", "'$1'", "p(b)", "initialization(a)", "dynamic(a)", "a-->b", "(:- a)", "(a:-b)"} {
		wantClasses(t, goal, with(parsed(goal)), "p")
	}
}

// TestClassesInEveryOrder lays a variable at each two places of all short rows of inline goals and calls.
func TestClassesInEveryOrder(t *testing.T) {
	for n := range 6 {
		for row := range 1 << n {
			for first := range n + 1 {
				for second := first; second <= n; second++ {
					wantRowClass(t, n, row, first, second)
				}
			}
		}
	}
}

// wantRowClass takes a row of n goals whose bits say which are calls; place 0 is the head.
func wantRowClass(t *testing.T, n int, row int, first int, second int) {
	t.Helper()
	args := func(place int) string {
		switch {
		case place == first && place == second:
			return "f(A,A)"
		case place == first || place == second:
			return "A"
		}
		return "b"
	}
	goals := []string{"true"}[:1-min(n, 1)]
	between := 0
	for i := range n {
		name := "write"
		if row>>i&1 == 1 {
			name = "q"
			// The goal that stands at a place ends its chunk only for those behind it.
			if i+1 >= first && i+1 < second {
				between++
			}
		}
		goals = append(goals, fmt.Sprintf("%s(%s)", name, args(i+1)))
	}
	letter := "t"
	if between > 0 {
		letter = "p"
	}
	src := fmt.Sprintf("p(%s) :- %s", args(0), strings.Join(goals, ", "))
	wantClasses(t, src, clauseTerm(src), letter)
}

func TestGoodClauses(t *testing.T) {
	for _, src := range []string{
		"p :- true", "p :- a", "p :- a, b, c", "p :- true, a", "p :- a, true", "p :- true, true", "(a , b) :- c", "(a ; b) :- c", "! :- c", "[] :- true", "'' :- ''", "nl :- true", "'$1'(A) :- '$2'(A)", "'$level'(1) :- true", "once(a) :- c", "(:- a) :- c", "(a :- b) :- c",
		"p :- call((a,!;b)), findall(A,\\+ a,B)", "p :- ','(a), ','(a,b,c), ','", "p :- ';'(a), ';', '->', '->'(a,b,c), \\+(a,b), (\\+), once, once(a,b), forall(a), forall(a,b,c), !(a)", "p :- '$level', '$mark'(1,2), '$cut'(A,b)", "p :- '$a', '$level2'(b)", "p :- true(a)", "p :- f((a,b))",
	} {
		clause := clauseTerm(src)
		if _, code := impl.ClassifyVars(clause); code != impl.CodeOK {
			t.Errorf("ClassifyVars of %s: %d", src, code)
		}
		if ins, code := impl.CompileClause(clause); code != impl.CodeOK || len(ins) == 0 {
			t.Errorf("CompileClause of %s: %d, %d instructions", src, code, len(ins))
		}
	}
}

// badGoals may not stand in flat bodies.
func badGoals() []string {
	return []string{"A", "7", "-1", "(a , b)", "(a ; b)", "(a -> b)", "(a -> b ; c)", "\\+ a", "once(a)", "forall(a,b)", "!", "'$level'(a)", "'$level'(1)", "'$level'(f(A))", "'$level'([])", "'$mark'(a)", "'$mark'(1)", "'$mark'(f(A))", "'$cut'(a)", "'$cut'(1)", "'$cut'(f(A))"}
}

func TestBadGoals(t *testing.T) {
	for _, goal := range badGoals() {
		for _, format := range []string{"p :- %s", "p :- %s, a", "p :- a, %s, b", "p :- a, nl, c, %s", "p :- true, %s"} {
			if goal == "(a , b)" && strings.HasSuffix(format, "%s") {
				continue // there it is the rest of the body
			}
			src := fmt.Sprintf(format, goal)
			wantNoClause(t, src, clauseTerm(src), impl.CodeBad)
		}
	}
}

// notClauses are valid terms that break one thing each.
func notClauses() [][]impl.Cell {
	var all [][]impl.Cell
	for _, src := range []string{
		"p", "p(A)", "A", "7", "(:- a)", "':-'(p,a,b)", "':-'", "(p --> a)", "(p , a)", "(p -> a)", "f(p,a)", "(?- a)", "[p,a]",
		"A :- true", "A :- q(A)", "7 :- true", "-3 :- q",
	} {
		all = append(all, clauseTerm(src))
	}
	for _, src := range []string{
		"p(X1) :- true", "p(X7) :- q(X7)", "p(X1,X0) :- true", "p(X0,X2) :- q(X2)", "p :- q(X1)", "p(X0) :- q(X2)", "p(X0) :- q(X0,X2,X1)", "p(f(X1),X0) :- true", "p :- '$level'(X1)", "p(X1,X1) :- '$cut'(X1)",
	} {
		all = append(all, parsed(src))
	}
	return append(all, compTerm(":-", atomTerm("p"), varTerm(impl.MaxVar)), compTerm(":-", compTerm("p", varTerm(impl.MaxVar)), atomTerm("true")))
}

func TestNotClauses(t *testing.T) {
	for _, x := range notClauses() {
		if !impl.ValidTerm(x) {
			t.Fatalf("%s: not a term", showCells(x))
		}
		wantNoClause(t, showCells(x), x, impl.CodeBad)
	}
}

func TestNotTerms(t *testing.T) {
	good := clauseTerm("p(A,b,1) :- q(A), r(f(c))")
	for _, x := range badTerms() {
		wantNoClause(t, showCells(x), x, impl.CodeBad)
	}
	for _, c := range badCells() {
		for _, x := range [][]impl.Cell{compTerm(":-", compTerm("p", []impl.Cell{c}), atomTerm("true")), compTerm(":-", atomTerm("p"), []impl.Cell{c}), compTerm(":-", atomTerm("p"), compTerm("q", []impl.Cell{c}))} {
			wantNoClause(t, showCells(x), x, impl.CodeBad)
		}
	}
	for n := range good {
		wantNoClause(t, showCells(good[:n]), good[:n], impl.CodeBad)
	}
	wantNoClause(t, "a clause and more", append(copyTerm(good), atomTerm("a")...), impl.CodeBad)
}

func TestClauseMaxCells(t *testing.T) {
	for more, want := range []int{impl.CodeOK, impl.CodeBad} {
		body := atomTerm("a")
		for len(body) < impl.MaxCells-3 {
			body = compTerm(",", atomTerm("a"), body)
		}
		clause := compTerm(":-", compTerm("p", within(varTerm(0), "f", more)), body)
		if len(clause) != impl.MaxCells+more {
			t.Fatalf("%d cells", len(clause))
		}
		if want == impl.CodeOK {
			wantClasses(t, "all cells", clause, "v")
			// The head has no instruction; there are an environment, 999 calls, and how it is left.
			wantIns(t, "all cells", clause, codeOf("allocate a0, "+strings.Repeat("call a/0, ", 998)+"deallocate, execute a/0"))
			continue
		}
		wantNoClause(t, "one cell too many", clause, want)
	}
}
