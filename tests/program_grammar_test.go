package tests

import (
	"fmt"
	"strings"
	"testing"

	"loop.example/s00095/impl"
)

func TestGrammarParts(t *testing.T) {
	wantTranslated(t, impl.TranslateGrammar, map[string]string{
		"s --> a":                "s(X0,X1) :- a(X0,X1)",
		"s --> f(x,X4)":          "s(X5,X6) :- f(x,X4,X5,X6)",
		"s --> X4":               "s(X5,X6) :- phrase(X4,X5,X6)",
		"s --> X0":               "s(X1,X2) :- phrase(X0,X1,X2)",
		"s --> a, b":             "s(X0,X1) :- a(X0,X2), b(X2,X1)",
		"s --> a ; b":            "s(X0,X1) :- a(X0,X1) ; b(X0,X1)",
		"s --> (a | b)":          "s(X0,X1) :- a(X0,X1) ; b(X0,X1)",
		"s --> a -> b":           "s(X0,X1) :- a(X0,X2) -> b(X2,X1)",
		`s --> \+ a`:             `s(X0,X1) :- \+ a(X0,X2), X0 = X1`,
		"s --> !":                "s(X0,X1) :- !, X0 = X1",
		"s --> {g}":              "s(X0,X1) :- g, X0 = X1",
		"s --> {X7}":             "s(X8,X9) :- X7, X8 = X9",
		"s --> {1}":              "s(X0,X1) :- 1, X0 = X1",
		"s --> {(g, h ; !)}":     "s(X0,X1) :- (g, h ; !), X0 = X1",
		"s --> []":               "s(X0,X1) :- X0 = X1",
		"s --> [a]":              "s(X0,X1) :- X0 = [a|X1]",
		"s --> [X3, 1, [b], {}]": "s(X4,X5) :- X4 = [X3, 1, [b], {}|X5]",
		`s --> "hi"`:             "s(X0,X1) :- X0 = [104, 105|X1]",
		`s --> ""`:               "s(X0,X1) :- X0 = X1",
	})
}

func TestGrammarOthers(t *testing.T) {
	others := map[string]string{
		"call(p,X1)": "call(p,X1,X2,X3)", "call(X1)": "call(X1,X2,X3)", "once(X1)": "once(X1,X2,X3)", "forall(a,X1)": "forall(a,X1,X2,X3)", "phrase(X1)": "phrase(X1,X2,X3)", "f([a|X1])": "f([a|X1],X2,X3)",
		"','(X1)": "','(X1,X2,X3)", "','(a,b,X1)": "','(a,b,X1,X2,X3)", "';'(X1)": "';'(X1,X2,X3)", "'->'(a,b,X1)": "'->'(a,b,X1,X2,X3)", `\+(X1,a)`: `\+(X1,a,X2,X3)`, "!(X1)": "!(X1,X2,X3)",
		"'{}'(a,X1)": "'{}'(a,X1,X2,X3)", "'[]'(X1)": "'[]'(X1,X2,X3)", "'.'(X1)": "'.'(X1,X2,X3)", "'.'(a,b,X1)": "'.'(a,b,X1,X2,X3)", "'$a'(X1)": "'$a'(X1,X2,X3)", "'|'(a,X1)": "'|'(a,X1,X2,X3)",
		"(a --> X1)": "'-->'(a,X1,X2,X3)", "(a :- X1)": "':-'(a,X1,X2,X3)", "1 = X1": "'='(1,X1,X2,X3)", "X1 + 1": "'+'(X1,1,X2,X3)",
	}
	for src, want := range others {
		wantTranslated(t, impl.TranslateGrammar, map[string]string{"s --> " + src: "s(X2,X3) :- " + want})
	}
	for _, name := range []string{"{}", "','", "';'", "'->'", `\+`, "'.'", "'$'", "''", "'|'", "call", "true", "':-'"} {
		wantTranslated(t, impl.TranslateGrammar, map[string]string{"s --> (" + name + ")": "s(X0,X1) :- " + strings.ReplaceAll(name, "{}", "'{}'") + "(X0,X1)"})
	}
}

func TestGrammarNumbersInOrder(t *testing.T) {
	wantTranslated(t, impl.TranslateGrammar, map[string]string{
		"s --> a, b, c":              "s(X0,X1) :- a(X0,X2), b(X2,X3), c(X3,X1)",
		"s --> (a, b), c":            "s(X0,X1) :- (a(X0,X3), b(X3,X2)), c(X2,X1)",
		"s --> (a, b), (c, d)":       "s(X0,X1) :- (a(X0,X3), b(X3,X2)), c(X2,X4), d(X4,X1)",
		"s --> a, (b ; c, d), e":     "s(X0,X1) :- a(X0,X2), (b(X2,X3) ; c(X2,X4), d(X4,X3)), e(X3,X1)",
		"s --> (a, b ; c, d)":        "s(X0,X1) :- (a(X0,X2), b(X2,X1) ; c(X0,X3), d(X3,X1))",
		"s --> (a -> b, c ; d -> e)": "s(X0,X1) :- (a(X0,X2) -> b(X2,X3), c(X3,X1) ; d(X0,X4) -> e(X4,X1))",
		"s --> ((a, b) -> c)":        "s(X0,X1) :- (a(X0,X3), b(X3,X2)) -> c(X2,X1)",
		`s --> \+ a, b`:              `s(X0,X1) :- (\+ a(X0,X3), X0 = X2), b(X2,X1)`,
		`s --> \+ (a, b)`:            `s(X0,X1) :- \+ (a(X0,X3), b(X3,X2)), X0 = X1`,
		`s --> \+ \+ a`:              `s(X0,X1) :- \+ (\+ a(X0,X3), X0 = X2), X0 = X1`,
		"s --> {g(X2)}, !, [a], []":  "s(X3,X4) :- (g(X2), X3 = X5), (!, X5 = X6), X6 = [a|X7], X7 = X4",
		"s --> X2, X5":               "s(X6,X7) :- phrase(X2,X6,X8), phrase(X5,X8,X7)",
		"s(X9) --> a(X3)":            "s(X9,X10,X11) :- a(X3,X10,X11)",
		"s(X3) --> a(X9), b":         "s(X3,X10,X11) :- a(X9,X10,X12), b(X12,X11)",
		"s, [p] --> a, b":            "s(X0,X1) :- (a(X0,X3), b(X3,X2)), X1 = [p|X2]",
		`s, [p] --> \+ a`:            `s(X0,X1) :- (\+ a(X0,X3), X0 = X2), X1 = [p|X2]`,
		"s, [X7] --> a, b":           "s(X8,X9) :- (a(X8,X11), b(X11,X10)), X9 = [X7|X10]",
	})
}

func TestGrammarLeftSides(t *testing.T) {
	wantTranslated(t, impl.TranslateGrammar, map[string]string{
		"s(x,X1) --> a":             "s(x,X1,X2,X3) :- a(X2,X3)",
		"s, [x] --> a":              "s(X0,X1) :- a(X0,X2), X1 = [x|X2]",
		"s, [] --> a":               "s(X0,X1) :- a(X0,X2), X1 = X2",
		`s, "hi" --> a`:             "s(X0,X1) :- a(X0,X2), X1 = [104, 105|X2]",
		"s(X0), [X0, f(X1)] --> X1": "s(X0,X2,X3) :- phrase(X1,X2,X4), X3 = [X0, f(X1)|X4]",
		"(a, b), [c] --> d":         "','(a,b,X0,X1) :- d(X0,X2), X1 = [c|X2]",
		"(a ; b) --> c":             "';'(a,b,X0,X1) :- c(X0,X1)",
		`\+ a --> c`:                `\+(a,X0,X1) :- c(X0,X1)`,
		"! --> c":                   "!(X0,X1) :- c(X0,X1)",
		"{} --> c":                  "'{}'(X0,X1) :- c(X0,X1)",
		"{g} --> c":                 "'{}'(g,X0,X1) :- c(X0,X1)",
		"call --> c":                "call(X0,X1) :- c(X0,X1)",
		"'$a' --> c":                "'$a'(X0,X1) :- c(X0,X1)",
		"'.' --> c":                 "'.'(X0,X1) :- c(X0,X1)",
		"'.'(a) --> c":              "'.'(a,X0,X1) :- c(X0,X1)",
		"'.'(a,b,[]) --> c":         "'.'(a,b,[],X0,X1) :- c(X0,X1)",
		"'[]'(a) --> c":             "'[]'(a,X0,X1) :- c(X0,X1)",
		"','(a) --> c":              "','(a,X0,X1) :- c(X0,X1)",
		"','(a,b,c) --> c":          "','(a,b,c,X0,X1) :- c(X0,X1)",
		"',' --> c":                 "','(X0,X1) :- c(X0,X1)",
	})
}

func TestGrammarNotTaken(t *testing.T) {
	wantNoneOf(t, impl.TranslateGrammar, impl.CodeBad, "a", "X1", "1", "[]", "a :- b", "(:- a)", "'-->'", "'-->'(a)", "'-->'(a,b,c)", "f((a --> b))", "[(a --> b)]", "'->'(a,b)")
	for _, bad := range badTerms() {
		wantNone(t, showCells(bad), impl.TranslateGrammar, bad, impl.CodeBad)
		wantNone(t, "a right side "+showCells(bad), impl.TranslateGrammar, compTerm("-->", atomTerm("s"), bad), impl.CodeBad)
	}
}

func TestGrammarFails(t *testing.T) {
	for _, left := range []string{"X1", "1", "-1", "[]", "[a]", "[a|X1]", "[a|b]", `"a"`, `""`, "'.'(a,b)"} {
		wantNoneOf(t, impl.TranslateGrammar, impl.CodeFail, left+" --> a", "("+left+"), [x] --> a")
	}
	for _, pushed := range []string{"X1", "y", "1", "[x|X1]", "[x|y]", "[x,y|1]", "{}", "(x,[y])", "f([])", "'.'", "'.'([])", "'.'(x,y,[])", "'[]'(x)"} {
		wantNoneOf(t, impl.TranslateGrammar, impl.CodeFail, "s, "+pushed+" --> a")
	}
	for _, fault := range []string{"1", "-1", "[a|X1]", "[a|b]", "[a,b|1]", "'.'(a,b)"} {
		for _, place := range []string{"@", "@, a", "a, @", "@ ; a", "a ; @", "@ -> a", "a -> (@)", `\+ (@)`, "(a, (b ; @)), c", `a, b, c, \+ (d -> \+ (@))`, "X7, @"} {
			right := strings.ReplaceAll(place, "@", fault)
			wantNoneOf(t, impl.TranslateGrammar, impl.CodeFail, "s --> "+right, "s, [x] --> "+right)
		}
		for _, place := range []string{"{@}", "[@]", "f(@)", "'-->'(@,a)", "!(@)"} {
			src := "s --> " + strings.ReplaceAll(place, "@", fault)
			if _, code := impl.TranslateGrammar(parsed(src)); code != impl.CodeOK {
				t.Errorf("%s: %d", src, code)
			}
		}
	}
}

// wideGoal has so many arguments.
func wideGoal(arity int) string {
	return "f(" + manyOf(arity, ",", func(i int) string { return fmt.Sprint(i) }) + ")"
}

func TestGrammarArity(t *testing.T) {
	widest := impl.MaxArity - 2
	for _, place := range []string{"@ --> a", "@, [x] --> a", "s --> @", "s --> a, @", "s --> @, a", "s --> a ; @", "s --> (a -> @)", `s --> \+ @`, "s, [x] --> @"} {
		for arity := widest - 1; arity <= impl.MaxArity; arity++ {
			want := impl.CodeOK
			if arity > widest {
				want = impl.CodeLimit
			}
			src := strings.ReplaceAll(place, "@", wideGoal(arity))
			if c, code := impl.TranslateGrammar(parsed(src)); code != want || (code == impl.CodeOK) != impl.ValidTerm(c) || code != impl.CodeOK && len(c) != 0 {
				t.Errorf("%s: %d", src, code)
			}
		}
	}
	for _, place := range []string{"s --> {@}", "s --> [@]", "s, [@] --> a", "s(@) --> a(@)"} {
		src := strings.ReplaceAll(place, "@", wideGoal(impl.MaxArity))
		if _, code := impl.TranslateGrammar(parsed(src)); code != impl.CodeOK {
			t.Errorf("%s: %d", src, code)
		}
	}
}

func TestGrammarFirstFault(t *testing.T) {
	wide := wideGoal(impl.MaxArity - 1)
	for src, want := range map[string]int{
		"1 --> @": impl.CodeFail, "[], [x] --> @": impl.CodeFail, "X1, y --> @": impl.CodeFail, "[a] --> @, 1": impl.CodeFail,
		"@ --> 1": impl.CodeLimit, "@, y --> a": impl.CodeLimit, "@, y --> 1": impl.CodeLimit, "@, [x] --> [a|b]": impl.CodeLimit,
		"s --> @, 1": impl.CodeLimit, "s --> 1, @": impl.CodeFail, "s --> @ ; 1": impl.CodeLimit, "s --> 1 ; @": impl.CodeFail, "s --> (@ -> 1)": impl.CodeLimit, "s --> (1 -> @)": impl.CodeFail,
		"s --> (a, @), 1": impl.CodeLimit, "s --> (a, [b|c]), @": impl.CodeFail, `s --> \+ @ ; 1`: impl.CodeLimit, `s --> \+ 1 ; @`: impl.CodeFail,
		"s, y --> @": impl.CodeLimit, "s, y --> a, @": impl.CodeLimit, "s, y --> 1, @": impl.CodeFail, "s, [x|y] --> @, 1": impl.CodeLimit,
	} {
		wantNone(t, src, impl.TranslateGrammar, parsed(strings.ReplaceAll(src, "@", wide)), want)
	}
}

func TestGrammarFaultsAheadOfCellsAndNumbers(t *testing.T) {
	s, x, one := atomTerm("s"), listTerm(atomTerm("x")), intTerm(1)
	for what, long := range map[string][]impl.Cell{"cells": compTerm("f", chain(impl.MaxCells-10)), "numbers": compTerm("f", varTerm(impl.MaxVar))} {
		wantNone(t, what+" alone", impl.TranslateGrammar, compTerm("-->", s, compTerm(",", long, compTerm(",", s, s))), impl.CodeLimit)
		wantNone(t, what+", with a list", impl.TranslateGrammar, compTerm("-->", compTerm(",", s, x), long), impl.CodeLimit)
		wantNone(t, what+", the nonterminal", impl.TranslateGrammar, compTerm("-->", one, long), impl.CodeFail)
		wantNone(t, what+", the right side", impl.TranslateGrammar, compTerm("-->", s, compTerm(",", long, one)), impl.CodeFail)
		wantNone(t, what+", no list", impl.TranslateGrammar, compTerm("-->", compTerm(",", s, atomTerm("x")), long), impl.CodeFail)
		wantNone(t, what+", no list behind", impl.TranslateGrammar, compTerm("-->", compTerm(",", s, long), s), impl.CodeFail)
	}
}

func TestGrammarAtMaxVar(t *testing.T) {
	for src, needed := range map[string]int{
		"s --> @": 2, "s(@) --> a": 2, "s --> [@]": 2, "s --> {@}": 2, "s --> a ; f(@)": 2, "s --> a, f(@)": 3, `s --> \+ f(@)`: 3, "s --> (f(@) -> a)": 3, "s --> a, b(@), c": 4,
		"s, [@] --> a": 3, "s, [x] --> a(@)": 3, "s, [@] --> a, b": 4, "s --> (a, b ; c, f(@))": 4,
	} {
		for more := range 3 {
			greatest := impl.MaxVar - needed + more
			x := parsed(strings.ReplaceAll(src, "@", fmt.Sprintf("X%d", greatest)))
			want := impl.CodeOK
			if more > 0 {
				want = impl.CodeLimit
			}
			c, code := impl.TranslateGrammar(x)
			if code != want || (code == impl.CodeOK) != impl.ValidTerm(c) || code != impl.CodeOK && len(c) != 0 {
				t.Errorf("%s with %d: %d", src, greatest, code)
			}
		}
	}
}

func TestGrammarAtMaxCells(t *testing.T) {
	s, x := atomTerm("s"), varTerm(1)
	rule := func(right []impl.Cell) []impl.Cell { return compTerm("-->", s, right) }
	for _, c := range []struct {
		what string
		more int
		from func(cells int) []impl.Cell
	}{
		{"a nonterminal", 4, func(n int) []impl.Cell { return rule(chain(n - 2)) }},
		{"a head", 4, func(n int) []impl.Cell { return compTerm("-->", chain(n-2), s) }},
		{"a goal", 5, func(n int) []impl.Cell { return rule(compTerm("{}", chain(n-3))) }},
		{"a list", 4, func(n int) []impl.Cell { return rule(listTerm(chain(n - 4))) }},
		{"a variable and a nonterminal", 7, func(n int) []impl.Cell { return rule(compTerm(",", x, chain(n-4))) }},
		{"a branch", 7, func(n int) []impl.Cell { return rule(compTerm(";", chain(n-4), x)) }},
		{"a condition", 6, func(n int) []impl.Cell { return rule(compTerm("->", chain(n-4), s)) }},
		{"what is not", 8, func(n int) []impl.Cell { return rule(compTerm(`\+`, chain(n-3))) }},
		{"a cut", 8, func(n int) []impl.Cell { return rule(compTerm(",", atomTerm("!"), chain(n-4))) }},
		{"a list in front", 6, func(n int) []impl.Cell {
			return compTerm("-->", compTerm(",", s, listTerm(chain(n-6))), s)
		}},
	} {
		wantAtMost(t, c.what, impl.TranslateGrammar, c.more, c.from)
	}
}

func TestGrammarOfMany(t *testing.T) {
	for _, name := range []string{",", ";", "->"} {
		right := atomTerm("a")
		left := atomTerm("a")
		for range 100 {
			right = compTerm(name, atomTerm("b"), right)
			left = compTerm(name, left, atomTerm("b"))
		}
		for _, x := range [][]impl.Cell{right, left} {
			c, code := impl.TranslateGrammar(compTerm("-->", atomTerm("s"), x))
			vars := 2
			if name != ";" {
				vars += 100
			}
			if code != impl.CodeOK || len(impl.TermVars(c)) != vars || !impl.ValidTerm(c) {
				t.Errorf("%s: %d, %d variables", name, code, len(impl.TermVars(c)))
			}
		}
	}
}
