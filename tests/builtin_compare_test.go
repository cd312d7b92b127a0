package tests

import (
	"fmt"
	"testing"

	"loop.example/s00095/impl"
)

func TestBuiltinTrueFail(t *testing.T) {
	wantEffects(t, map[string]string{"true": "holds", "fail": "fails", "false": "fails"})
}

// What = asks for is not looked at: two terms that cannot be one are asked for, too.
func TestBuiltinUnify(t *testing.T) {
	wantEffects(t, map[string]string{
		"X1 = X2": "X1 <- X2", "X2 = X1": "X2 <- X1", "X1 = X1": "X1 <- X1", "a = b": "a <- b", "X1 = f(X1)": "X1 <- f(X1)", "f(X9,X3) = f(X3,b)": "f(X9,X3) <- f(X3,b)",
		"1 = X1000000": "1 <- X1000000", "[a|X1] = [X2,b]": "[a|X1] <- [X2,b]", "(a=b) = X0": "(a=b) <- X0",
	})
	for _, x := range validTerms() {
		wantPair(t, x, chain(impl.MaxCells), "=", x, chain(impl.MaxCells))
		wantPair(t, chain(impl.MaxCells), x, "=", chain(impl.MaxCells), x)
	}
}

func TestBuiltinNotUnify(t *testing.T) {
	wantSameEffects(t, "fails", `a \= a`, `X1 \= a`, `a \= X1`, `X1 \= X2`, `X1 \= X1`, `f(X1) \= f(a)`, `f(X1,b) \= f(a,X1000000)`, `[] \= []`, `-1 \= -1`)
	wantSameEffects(t, "holds", `a \= b`, `a \= 1`, `f(a) \= f(b)`, `f(a) \= f(a,b)`, `X1 \= f(X1)`, `f(X1) \= X1`, `f(X1,X1) \= f(a,b)`, `f(X1,X2) \= f(g(X2),g(X1))`, `1 \= -1`, `a \= f(a)`, `[a] \= []`)
}

// wantNotUnify takes terms with what Unify answers for them.
func wantNotUnify(t *testing.T, what string, unified int, a []impl.Cell, b []impl.Cell) {
	t.Helper()
	if _, code := impl.Unify(a, b); code != unified {
		t.Fatalf("%s: Unify answers %d, want %d", what, code, unified)
	}
	want := map[int]int{impl.CodeOK: impl.CodeFail, impl.CodeFail: impl.CodeOK, impl.CodeCyclic: impl.CodeOK, impl.CodeLimit: impl.CodeLimit}[unified]
	wantNothing(t, want, `\=`, a, b)
	wantNothing(t, want, `\=`, b, a)
}

func TestBuiltinNotUnifyLimits(t *testing.T) {
	a, b := atomTerm("a"), atomTerm("b")
	left, right := pairsBefore(impl.MaxPairs - 1)
	wantNotUnify(t, "as many pairs as may be", impl.CodeOK, listEnding(a, left...), listEnding(a, right...))
	wantNotUnify(t, "a fault at the last pair", impl.CodeFail, listEnding(a, left...), listEnding(b, right...))
	wantNotUnify(t, "a circle at the last pair", impl.CodeCyclic, listEnding(varTerm(9), left...), listEnding(compTerm("f", varTerm(9)), right...))
	left, right = pairsBefore(impl.MaxPairs)
	wantNotUnify(t, "too many pairs", impl.CodeLimit, listEnding(a, left...), listEnding(a, right...))
	wantNotUnify(t, "too many pairs ahead of a fault", impl.CodeLimit, listEnding(a, left...), listEnding(b, right...))
	for n := impl.MaxBindings; n <= impl.MaxBindings+1; n++ {
		want := map[int]int{impl.MaxBindings: impl.CodeOK, impl.MaxBindings + 1: impl.CodeLimit}[n]
		wantNotUnify(t, fmt.Sprint(n, " bindings"), want, wideOf(a, varsFrom(10, n)...), wideOf(a, manyItems(n, a)...))
	}
	for n, want := range map[int]int{9: impl.CodeOK, 10: impl.CodeLimit} {
		left, right := tower(0, n)
		wantNotUnify(t, fmt.Sprint("tower ", n), want, listTerm(left...), listTerm(right...))
		wantNotUnify(t, fmt.Sprint("tower with a fault ", n), impl.CodeFail, listEnding(a, left...), listEnding(b, right...))
	}
}

// wantPlaced asks all builtins of the standard order for two terms, of which the first is before (-1), the same as (0) or
// behind (1) the second.
func wantPlaced(t *testing.T, order int, a []impl.Cell, b []impl.Cell) {
	t.Helper()
	for name, holds := range map[string]bool{"==": order == 0, `\==`: order != 0, "@<": order < 0, "@=<": order <= 0, "@>": order > 0, "@>=": order >= 0} {
		code := impl.CodeFail
		if holds {
			code = impl.CodeOK
		}
		wantNothing(t, code, name, a, b)
	}
	sign := atomTerm([]string{"<", "=", ">"}[order+1])
	for _, o := range [][]impl.Cell{varTerm(9), varTerm(1), atomTerm("<"), atomTerm("a"), intTerm(0), parsed("f(X9)")} {
		wantPair(t, o, sign, "compare", o, a, b)
	}
}

func TestBuiltinOrderOfKinds(t *testing.T) {
	sources := []string{"X5", "-7", "0", "3", "[]", "a", "aa", "b", "f(X3)", "f(1)", "f(a)", "g(X3)", "'.'(a)", "f(a,b)", "f(b,a)", "g(a,a)", "[a]", "a(1,2,3)"}
	order := map[string]int{}
	// '.' comes before f and g by its byte.
	for i, src := range []string{"X5", "-7", "0", "3", "[]", "a", "aa", "b", "'.'(a)", "f(X3)", "f(1)", "f(a)", "g(X3)", "[a]", "f(a,b)", "f(b,a)", "g(a,a)", "a(1,2,3)"} {
		order[src] = i
	}
	for _, a := range sources {
		for _, b := range sources {
			placed := 0
			if order[a] != order[b] {
				placed = map[bool]int{true: -1, false: 1}[order[a] < order[b]]
			}
			wantPlaced(t, placed, parsed(a), parsed(b))
		}
	}
}

// The variables have their numbers by where they stand first, in the first term and then in the second: what their own
// numbers are plays no part.
func TestBuiltinOrderOfVariables(t *testing.T) {
	for _, c := range []struct {
		a, b  string
		order int
	}{
		{"X1", "X2", -1}, {"X2", "X1", -1}, {"X1", "X1", 0}, {"X1000000", "X0", -1}, {"X0", "X1000000", -1},
		{"f(X1)", "f(X2)", -1}, {"f(X2)", "f(X1)", -1}, {"f(X2)", "f(X2)", 0},
		{"f(X1,X2)", "f(X2,X1)", -1}, {"f(X2,X1)", "f(X1,X2)", -1}, {"f(X1,X2)", "f(X1,X2)", 0}, {"f(X2,X1)", "f(X2,X1)", 0},
		{"f(X1,X2)", "f(X1,X1)", 1}, {"f(X2,X1)", "f(X2,X2)", 1}, {"f(X1,X1)", "f(X1,X2)", -1}, {"f(X2,X2)", "f(X2,X1)", -1},
		{"f(X1,X1)", "f(X2,X2)", -1}, {"f(X9,X3,X3)", "f(X9,X3,X9)", 1}, {"f(X3,X9,X9)", "f(X3,X9,X3)", 1}, {"f(X3,X9,X3)", "f(X3,X9,X9)", -1},
		{"g(X5)", "X5", 1}, {"X5", "g(X5)", -1}, {"X5", "g(X4)", -1}, {"g(X4)", "X5", 1}, {"X5", "1", -1}, {"1", "X5", 1},
		{"f(X7,a)", "f(X3,b)", -1}, {"f(X7,b)", "f(X3,a)", -1}, {"f(a,X7)", "f(a,X3)", -1}, {"f(b,X7)", "f(a,X3)", 1}, {"f(h(X1,X2),X2)", "f(h(X1,X2),X1)", 1},
		{"f(X3,h(X2))", "f(X3,h(X1))", -1}, {"f(X3,h(X2))", "f(X3,h(X3))", 1}, {"[X4,X3|X2]", "[X4,X3|X4]", 1}, {"[X4,X3|X2]", "[X4,X3|X1]", -1}, {"f(X2,X1)", "f(X2,X3)", -1},
	} {
		wantPlaced(t, c.order, parsed(c.a), parsed(c.b))
	}
}

func TestBuiltinOrderOfGreatTerms(t *testing.T) {
	full := chain(impl.MaxCells)
	wantPlaced(t, 0, full, copyTerm(full))
	wantPlaced(t, 1, full, chain(impl.MaxCells-1))
	wantPlaced(t, -1, chainTo(impl.MaxCells, varTerm(3)), chainTo(impl.MaxCells, varTerm(2)))
	wantPlaced(t, -1, wideOf(intTerm(1), varsFrom(500, 1000)...), wideOf(intTerm(1), varsFrom(0, 1000)...))
	wantPlaced(t, 0, wideOf(intTerm(1), varsFrom(500, 1000)...), wideOf(intTerm(1), varsFrom(500, 1000)...))
	wantPlaced(t, 1, wideOf(varTerm(501), varsFrom(500, 1000)...), wideOf(varTerm(500), varsFrom(500, 1000)...))
}

// A mark tells that a test holds for a term.
func TestBuiltinKinds(t *testing.T) {
	tests := []string{"var", "nonvar", "atom", "integer", "atomic", "compound", "callable", "is_list", "ground"}
	for src, marks := range map[string]string{
		//              vnaicmlLg
		"X0":           "v--------",
		"X1000000":     "v--------",
		"1":            "-n-ia---g",
		"0":            "-n-ia---g",
		"-1":           "-n-ia---g",
		"a":            "-na-a-l-g",
		"''":           "-na-a-l-g",
		"'X'":          "-na-a-l-g",
		"'1'":          "-na-a-l-g",
		"+":            "-na-a-l-g",
		"[]":           "-na-a-lLg",
		"{}":           "-na-a-l-g",
		"'.'":          "-na-a-l-g",
		"f(a)":         "-n---cl-g",
		"f(X0)":        "-n---cl--",
		"f(a,g(X0))":   "-n---cl--",
		"{a}":          "-n---cl-g",
		"'[]'(a)":      "-n---cl-g",
		"-(1)":         "-n---cl-g",
		"1+2":          "-n---cl-g",
		"[a]":          "-n---clLg",
		"[X0]":         "-n---clL-",
		"[a,b,f(c)]":   "-n---clLg",
		"[[]|[]]":      "-n---clLg",
		"[a|X0]":       "-n---cl--",
		"[a|b]":        "-n---cl-g",
		"[a,b|c]":      "-n---cl-g",
		"[a|[b|X0]]":   "-n---cl--",
		"'.'(a)":       "-n---cl-g",
		"'.'(a,[],[])": "-n---cl-g",
		"\"\"":         "-na-a-lLg",
		"\"ab\"":       "-n---clLg",
	} {
		for i, name := range tests {
			code := impl.CodeFail
			if marks[i] != '-' {
				code = impl.CodeOK
			}
			wantNothing(t, code, name, parsed(src))
		}
	}
	wantNothing(t, impl.CodeOK, "ground", chain(impl.MaxCells))
	wantNothing(t, impl.CodeFail, "ground", chainTo(impl.MaxCells, varTerm(0)))
	wantNothing(t, impl.CodeOK, "is_list", listTerm(manyItems(999, varTerm(0))...))
	wantNothing(t, impl.CodeFail, "is_list", listEnding(varTerm(0), manyItems(999, atomTerm("a"))...))
}

func TestBuiltinIs(t *testing.T) {
	wantEffects(t, map[string]string{
		"X1 is 1+2": "X1 <- 3", "3 is 1+2": "3 <- 3", "4 is 1+2": "4 <- 3", "a is 7": "a <- 7", "f(X1) is -(7)": "f(X1) <- -7", "X1 is 7 mod -2": "X1 <- -1",
		"X1 is X1": "fault instantiation_error", "X1 is X2+1": "fault instantiation_error", "3 is foo": "fault type_error(evaluable,foo/0)", "X1 is foo(X2)": "fault type_error(evaluable,foo/1)",
		"X1 is 1//0": "fault evaluation_error(zero_divisor)", "X1 is 1<<(-1)": "fault evaluation_error(undefined)", "X1 is 10^16": "fault evaluation_error(int_overflow)", "X1 is 2^(-1)": "fault type_error(float,2)",
		"X1 is \"a\"": "fault type_error(evaluable,'.'/2)", "1+1 is X1": "fault instantiation_error", "1+1 is 2": "1+1 <- 2", "X1 is 1000000000000000": "X1 <- 1000000000000000",
	})
}

func TestBuiltinValues(t *testing.T) {
	for _, c := range []struct {
		a, b  string
		order int
	}{
		{"1", "2", -1}, {"2", "1", 1}, {"1+1", "2", 0}, {"-1", "0", -1}, {"0", "-1", 1}, {"2*3", "7-1", 0}, {"-1000000000000000", "1000000000000000", -1},
		{"1000000000000000", "1000000000000000-1", 1}, {"abs(-3)", "3", 0}, {"1<<4", "2^4", 0}, {"10", "9", 1}, {"-10", "-9", -1},
	} {
		for name, holds := range map[string]bool{"=:=": c.order == 0, `=\=`: c.order != 0, "<": c.order < 0, "=<": c.order <= 0, ">": c.order > 0, ">=": c.order >= 0} {
			want := "fails"
			if holds {
				want = "holds"
			}
			wantEffects(t, map[string]string{fmt.Sprintf("(%s) %s (%s)", c.a, name, c.b): want})
		}
	}
}

// The first one's fault comes ahead of the second one's, whatever the values are.
func TestBuiltinValueFaults(t *testing.T) {
	for _, name := range []string{"=:=", `=\=`, "<", "=<", ">", ">="} {
		for _, first := range faultyParts {
			for _, second := range faultyParts {
				wantBuiltinFault(t, parsed(first.fault), name, parsed(first.src), parsed(second.src))
			}
			for _, n := range []int{0, 1, -1, impl.MaxInt, -impl.MaxInt} {
				wantBuiltinFault(t, parsed(first.fault), name, parsed(first.src), intTerm(n))
				wantBuiltinFault(t, parsed(first.fault), name, intTerm(n), parsed(first.src))
			}
		}
	}
	for _, part := range faultyParts {
		wantBuiltinFault(t, parsed(part.fault), "is", varTerm(9), parsed(part.src))
		wantBuiltinFault(t, parsed(part.fault), "is", parsed("f(X9)"), parsed(part.src))
		wantBuiltinFault(t, parsed(part.fault), "tab", parsed(part.src))
	}
}
