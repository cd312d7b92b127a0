package tests

import (
	"strings"
	"testing"

	"loop.example/s00095/impl"
)

func TestNormalGoals(t *testing.T) {
	for _, src := range []string{
		"a", "true", "fail", "f(X3,1,X3)", "X1 = X2", "call(X4)", "call((X1,X2))", "call(1)", "call(f, X1)", "findall(X1, (X2;1), X3)", "catch(X1, X2, X3)", "asserta((a :- X1))", "assertz(1)",
		"throw(X1)", "halt", "phrase(X1, X2)", "[]", "[a|X1]", "{}", "{X1}", `"text"`, "(a :- b)", "(:- X1)", "(a --> X1)", "f('$a', '$b'(X1))", "'a$'", "''", "' $'", "'|'(X1,X2)",
		"','", "','(X1)", "','(X1,1,'$')", "';'", "';'(X1)", "'->'", "'->'(X1)", "'->'(X1,X2,X3)", `\+`, `\+(X1,X2)`, "once", "once(X1,X2)", "forall", "forall(X1)", "forall(X1,X2,X3)", "!(X1)", "!(1,2)",
		"not(X1)", "X1^X2", "is(1,2)", "dynamic(X1)", "initialization(X1)",
	} {
		wantTranslated(t, impl.NormalBody, map[string]string{src: src})
	}
}

func TestNormalConstructs(t *testing.T) {
	wantTranslated(t, impl.NormalBody, map[string]string{
		"X5": "call(X5)", "!": "!",
		"(a,b)": "(a,b)", "(X1,b)": "(call(X1),b)", "(a,X1)": "(a,call(X1))", "(X2,X2)": "(call(X2),call(X2))",
		"(a;b)": "(a;b)", "(X1;b)": "(call(X1);b)", "(a;X1)": "(a;call(X1))",
		"(a->b)": "(a->b)", "(X1->b)": "(call(X1)->b)", "(a->X1)": "(a->call(X1))",
		`\+ a`: `\+ a`, `\+ X1`: `\+ call(X1)`, `\+ !`: `\+ !`,
		"once(a)": "(a->true)", "once(X1)": "(call(X1)->true)", "once(!)": "(!->true)",
		"forall(a,b)": `\+ (a, \+ b)`, "forall(X1,b)": `\+ (call(X1), \+ b)`, "forall(a,X1)": `\+ (a, \+ call(X1))`, "forall(!,!)": `\+ (!, \+ !)`,
		"(a,X1;b->X2)": "(a,call(X1);b->call(X2))", "((a,b),c)": "((a,b),c)", "(a,(b,c))": "(a,(b,c))", "(a->b;c)": "(a->b;c)", "((a;b);c)": "((a;b);c)",
	})
}

func TestNormalWithinEachOther(t *testing.T) {
	wantTranslated(t, impl.NormalBody, map[string]string{
		"once(once(X1))":                    "((call(X1)->true)->true)",
		"once(forall(X1,X2))":               `(\+ (call(X1), \+ call(X2)) -> true)`,
		"forall(once(a),b)":                 `\+ ((a->true), \+ b)`,
		"forall(a,once(b))":                 `\+ (a, \+ (b->true))`,
		"forall(forall(a,X1),forall(X2,b))": `\+ (\+ (a, \+ call(X1)), \+ \+ (call(X2), \+ b))`,
		`\+ \+ once(X1)`:                    `\+ \+ (call(X1)->true)`,
		"(once(a),forall(b,c))":             `((a->true), \+ (b, \+ c))`,
		"(once(a);once(b)->once(X1))":       "((a->true);(b->true)->(call(X1)->true))",
		"once((X1,once(X2);!))":             "(call(X1),(call(X2)->true);!)->true",
		"call(once(X1))":                    "call(once(X1))",
		"f(once(X1),forall(X1,X2))":         "f(once(X1),forall(X1,X2))",
		"findall(X1,once(X2),X3)":           "findall(X1,once(X2),X3)",
	})
}

// inConstructs puts a goal at every place at which a construct has one.
func inConstructs(goal string) []string {
	var all []string
	for _, place := range []string{"@", "(@,a)", "(a,@)", "(@;a)", "(a;@)", "(@->a)", "(a -> @)", `\+ @`, "once(@)", "forall(@,a)", "forall(a,@)", "(a,(b;c->(d, \\+ once(@))))", "((a,@;b)->X1)", "forall((a,once(@)),X1)"} {
		all = append(all, strings.ReplaceAll(place, "@", goal))
	}
	return all
}

func TestNoNormalBody(t *testing.T) {
	for _, goal := range []string{"1", "0", "-7", "1000000000000000", "'$'", "'$1'", "'$cut'(X1)", "'$level'(X1)", "'$ a'(1,2,3)", "'$'(X1)"} {
		wantNoneOf(t, impl.NormalBody, impl.CodeFail, inConstructs(goal)...)
	}
}

func TestNormalBodyOfNoTerm(t *testing.T) {
	for _, bad := range badTerms() {
		wantNone(t, showCells(bad), impl.NormalBody, bad, impl.CodeBad)
		wantNone(t, "once of "+showCells(bad), impl.NormalBody, compTerm("once", bad), impl.CodeBad)
	}
}

// wantAtMost asks for a term of MaxCells cells from one that has `more` cells less, and for CodeLimit from one with one
// cell more.
func wantAtMost(t *testing.T, what string, translate translation, more int, from func(cells int) []impl.Cell) {
	t.Helper()
	least := impl.MaxCells - more
	kept, code := translate(from(least))
	if len(from(least)) != least || code != impl.CodeOK || len(kept) != impl.MaxCells || !impl.ValidTerm(kept) {
		t.Errorf("%s of %d cells: %d, %d cells", what, len(from(least)), code, len(kept))
	}
	for cells := least + 1; cells <= impl.MaxCells; cells++ {
		wantNone(t, what, translate, from(cells), impl.CodeLimit)
	}
	if len(from(impl.MaxCells+1)) != impl.MaxCells+1 {
		t.Errorf("%s: %d cells", what, len(from(impl.MaxCells+1)))
	}
	wantNone(t, what, translate, from(impl.MaxCells+1), impl.CodeBad)
}

func TestNormalBodyAtMaxCells(t *testing.T) {
	x := varTerm(1)
	for _, c := range []struct {
		what string
		more int
		from func(cells int) []impl.Cell
	}{
		{"a goal", 0, chain},
		{"an atom within not", 0, func(n int) []impl.Cell { return within(atomTerm("a"), `\+`, n-1) }},
		{"a variable within not", 1, func(n int) []impl.Cell { return within(x, `\+`, n-1) }},
		{"a variable and a goal", 1, func(n int) []impl.Cell { return compTerm(",", x, chain(n-2)) }},
		{"variables around a goal", 2, func(n int) []impl.Cell { return compTerm(";", x, compTerm("->", chain(n-4), x)) }},
		{"once", 1, func(n int) []impl.Cell { return compTerm("once", chain(n-1)) }},
		{"once of a variable and once", 3, func(n int) []impl.Cell {
			return compTerm(",", compTerm("once", x), compTerm("once", chain(n-4)))
		}},
		{"forall", 2, func(n int) []impl.Cell { return compTerm("forall", chain(n-2), atomTerm("a")) }},
		{"forall of variables and goals", 4, func(n int) []impl.Cell {
			return compTerm("forall", compTerm(",", x, chain(n-5)), compTerm("once", atomTerm("a")))
		}},
	} {
		wantAtMost(t, c.what, impl.NormalBody, c.more, c.from)
	}
}

func TestNormalBodyFarBeyond(t *testing.T) {
	for _, name := range []string{"once", "forall"} {
		arity := map[string]int{"once": 1, "forall": 2}[name]
		deep := varTerm(0)
		for len(deep)+arity <= impl.MaxCells {
			args := [][]impl.Cell{deep, atomTerm("a")}
			deep = compTerm(name, args[:arity]...)
		}
		wantNone(t, name, impl.NormalBody, deep, impl.CodeLimit)
	}
}

func TestNoNormalBodyAheadOfLimit(t *testing.T) {
	for _, fault := range [][]impl.Cell{intTerm(1), atomTerm("$"), compTerm("$a", varTerm(1))} {
		long := compTerm(",", varTerm(0), chain(impl.MaxCells-3-len(fault)))
		wantNone(t, "at the end", impl.NormalBody, compTerm(",", long, fault), impl.CodeFail)
		wantNone(t, "in front", impl.NormalBody, compTerm(",", fault, long), impl.CodeFail)
		wantNone(t, "without the fault", impl.NormalBody, compTerm(",", long, chain(len(fault))), impl.CodeLimit)
	}
}
