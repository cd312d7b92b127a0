package tests

import (
	"fmt"
	"strings"
	"testing"

	"loop.example/s00095/impl"
)

func TestSessionAtMaxSource(t *testing.T) {
	blanks := func(n int) string { return strings.Repeat(" ", n) }
	program, query := "p(1). p(2).", "p(X)."
	for _, spare := range []int{0, 1} {
		wantProgramText, wantQueryText := "X = 1 ;\nX = 2 ;\nfalse.\n", "X = 1 ;\nX = 2 ;\nfalse.\n"
		if spare == 1 {
			wantProgramText, wantQueryText = "program: bounds at 10000\n", "query: bounds at 10000\n"
		}
		wantSession(t, blanks(impl.MaxSource+spare-len(program))+program, query, 5, 1000, wantProgramText)
		wantSession(t, program+blanks(impl.MaxSource+spare-len(program)), query, 5, 1000, wantProgramText)
		wantSession(t, program, blanks(impl.MaxSource+spare-len(query))+query, 5, 1000, wantQueryText)
		wantSession(t, program, query+blanks(impl.MaxSource+spare-len(query)), 5, 1000, wantQueryText)
	}
}

func TestSessionAtMaxAtom(t *testing.T) {
	most := strings.Repeat("a", impl.MaxAtom)
	codes := func(n int) string { return "[" + manyOf(n, ",", func(int) string { return "97" }) + "]" }
	wantTalks(t, []talks{
		{most + ".", most, 0, "true."},
		{"p(" + most + ").", "p(X)", 0, "X = " + most + "."},
		{"p('" + strings.Repeat("\\n", impl.MaxAtom) + "').", "p(X)", 0, "X = '" + strings.Repeat("\\n", impl.MaxAtom) + "'."},
		{"", strings.ToUpper(most) + " = 1", 0, strings.ToUpper(most) + " = 1."},
		{"", "X = \"" + most + "\"", 0, "X = " + codes(impl.MaxAtom) + "."},
		{"", "atom_codes(X, " + codes(impl.MaxAtom) + ")", 0, "X = " + most + "."},
		{"", "atom_codes(X, " + codes(impl.MaxAtom+1) + ")", 0, "bounds."},
		{"", "write(a), atom_codes(X, " + codes(impl.MaxAtom+1) + ")", 0, "a\nbounds."},
		{":- op(700, xfx, " + most + ").", "X = (a " + most + " b)", 0, "X = (a " + most + " b)."},
	})
	for _, atom := range []string{most + "a", "'" + most + "a'", strings.ToUpper(most) + "A", "\"" + most + "a\""} {
		wantSession(t, "b. p("+atom+").", "true.", 0, 100, "program: bounds at 5\n")
		wantSession(t, "", "p("+atom+").", 0, 100, "query: bounds at 2\n")
	}
}

func TestSessionAtMaxInt(t *testing.T) {
	const most = "1000000000000000"
	wantTalks(t, []talks{
		{"p(" + most + "). p(-" + most + ").", "p(X)", 1, "X = " + most + " ;\nX = -" + most + "."},
		{"", "X is " + most + " - 1 + 1, Y is - X", 0, "X = " + most + ",\nY = -" + most + "."},
		{"", "X is " + most + " + 1", 0, "error: error(evaluation_error(int_overflow),(is)/2)"},
		{"", "X is -" + most + " - 1", 0, "error: error(evaluation_error(int_overflow),(is)/2)"},
		{"", "between(" + most + ", " + most + ", X)", 1, "X = " + most + " ;\nfalse."},
		{"", "between(999999999999999, " + most + ", X)", 2, "X = 999999999999999 ;\nX = " + most + " ;\nfalse."},
		{"", "X = 0x38d7ea4c68000", 0, "X = " + most + "."},
		{"", "number_codes(X, \"" + most + "\")", 0, "X = " + most + "."},
		{"", "number_codes(X, \"1000000000000001\")", 0, "error: error(syntax_error(illegal_number),number_codes/2)"},
	})
	for _, number := range []string{"1000000000000001", "0x38d7ea4c68001", "99999999999999999999999999"} {
		wantSession(t, "p("+number+").", "true.", 0, 100, "program: bounds at 2\n")
		wantSession(t, "p(-"+number+").", "true.", 0, 100, "program: bounds at 3\n")
		wantSession(t, "", "X = -"+number+".", 0, 100, "query: bounds at 5\n")
	}
}

func TestSessionAtMaxArity(t *testing.T) {
	most, over := argList(impl.MaxArity), argList(impl.MaxArity+1)
	wantTalks(t, []talks{
		{"p(" + most + ").", "p(" + most + ")", 0, "true."},
		{"p(" + most + ").", "X = p(" + most + "), X", 0, "X = p(" + most + ")."},
		{"", "functor(X, f, 20), functor(X, Y, Z)", 0, "X = f(" + manyOf(20, ",", numbered("_%d")) + "),\nY = f,\nZ = 20."},
		{"", "functor(X, f, 21)", 0, "error: error(representation_error(max_arity),functor/3)"},
		{"", "X =.. [f," + most + "]", 0, "X = f(" + most + ")."},
		{"", "X =.. [f," + over + "]", 0, "error: error(representation_error(max_arity),(=..)/2)"},
		{"p(" + most + ").", "call(p(" + argList(13) + "), " + argList(7) + ")", 0, "true."},
		{"p(" + most + ").", "call(p(" + argList(14) + "), " + argList(7) + ")", 0, "error: error(representation_error(max_arity),call/8)"},
		{"", "f(" + manyOf(20, ",", numbered("V%d")) + ") = X, true", 0, "bounds."},
		{"", "f(" + manyOf(19, ",", numbered("V%d")) + ") = _, fail", 0, "false."},
		{":- dynamic p/20.", "p(" + most + ")", 0, "false."},
		{"s(" + argList(18) + ") --> [].", "phrase(s(" + argList(18) + "), [])", 0, "true."},
		{"", "phrase(s(" + argList(19) + "), [])", 0, "bounds."},
	})
	wantSession(t, "b. p("+over+").", "true.", 0, 100, "program: bounds at 3\n")
	wantSession(t, "b. :- p("+over+").", "true.", 0, 100, "program: bounds at 3\n")
	wantSession(t, "b. :- dynamic p/21.", "true.", 0, 100, "program: clause at 3\n")
	wantSession(t, "b. s("+argList(19)+") --> [].", "true.", 0, 100, "program: bounds at 3\n")
	wantSession(t, "", "true, p("+over+").", 0, 100, "query: bounds at 0\n")
}

func TestSessionAtMaxClauses(t *testing.T) {
	facts := func(n int) string { return manyOf(n, "", numbered("p(%d). ")) }
	wantSession(t, facts(impl.MaxClauses), "p(X), X > 498.", 5, impl.MaxFuel, "X = 499 ;\nfalse.\n")
	wantSession(t, facts(impl.MaxClauses)+"a.", "true.", 5, 100, fmt.Sprintf("program: bounds at %d\n", len(facts(impl.MaxClauses))))
	wantSession(t, facts(impl.MaxClauses)+":- op(200, xfx, w).", "X = a w b.", 0, 100, "X = a w b.\n")
	wantSession(t, facts(impl.MaxClauses-1)+":- write(a).", "p(7).", 0, 5000, "a\ntrue.\n")
	wantSession(t, facts(impl.MaxClauses-1)+":- write(a). :- write(b).", "p(7).", 0, 5000, fmt.Sprintf("program: bounds at %d\n", len(facts(impl.MaxClauses-1))+13))
	// A program that grows in a run is not bound by this.
	wantSession(t, ":- dynamic p/1. "+facts(impl.MaxClauses-1), "assertz(p(a)), assertz(p(b)), assertz(p(c)), p(X), atom(X).", 5, impl.MaxFuel, "X = a ;\nX = b ;\nX = c ;\nfalse.\n")
}

func TestSessionAtMaxLength(t *testing.T) {
	wantTalks(t, []talks{
		{"", "length(_, 500)", 0, "true."},
		{"", "length(_, 501)", 0, "error: error(resource_error(length),length/2)"},
		{"", "length([a, b|_], 502)", 0, "true."},
		{"", "length([a, b|_], 503)", 0, "error: error(resource_error(length),length/2)"},
		{"", "tab(500)", 0, strings.Repeat(" ", 500) + "\ntrue."},
		{"", "tab(501)", 0, strings.Repeat(" ", 500) + "\ntrue."},
		{"", "tab(-1)", 0, "true."},
		{"", "length(X, 500)", 0, "X = [" + manyOf(500, ",", numbered("_%d")) + "]."},
	})
}

func TestSessionAtMaxFuel(t *testing.T) {
	// What fails takes no memory, so that a run may have as many steps as there are.
	query := func(n int, behind string) string { return fmt.Sprintf("between(1, %d, X), fail ; true%s", n, behind) }
	steps := func(query string) int { return ran(t, "", query, 1, impl.MaxFuel, true).Steps }
	each := steps(query(3, "")) - steps(query(2, ""))
	n := 1 + (impl.MaxFuel-steps(query(1, "")))/each
	behind := ""
	for steps(query(n, behind)) < impl.MaxFuel {
		behind += ", atom(a)"
	}
	if needs := ran(t, "", query(n, behind), 1, impl.MaxFuel, true); needs.Steps != impl.MaxFuel || needs.Code != impl.CodeMore {
		t.Fatalf("%s: %s", query(n, behind), showOutcome(needs))
	}
	wantSession(t, "", query(n, behind)+".", 0, impl.MaxFuel, "X = _0.\n")
	wantSession(t, "", query(n, behind)+".", 0, impl.MaxFuel-1, "fuel.\n")
	wantSession(t, "", query(n, behind)+".", 0, impl.MaxFuel+1, "")
	wantSession(t, "", query(n, behind+", atom(a)")+".", 0, impl.MaxFuel, "fuel.\n")
	wantSession(t, "p :- p.", "p.", 0, impl.MaxFuel, "fuel.\n")
}

func TestSessionAtMaxAnswers(t *testing.T) {
	all := func(n int) string { return manyOf(n, "", numbered("X = %d ;\n")) }
	most := impl.MaxAnswers
	wantSession(t, "", "between(0, 200, X).", most-1, impl.MaxFuel, all(most-1)+"X = 99.\n")
	wantSession(t, "", "between(0, 99, X).", most-1, impl.MaxFuel, all(most-1)+"X = 99.\n")
	wantSession(t, "", "between(0, 98, X).", most-1, impl.MaxFuel, all(most-1)+"false.\n")
	wantSession(t, "", "between(0, 200, X).", most-2, impl.MaxFuel, all(most-2)+"X = 98.\n")
	wantSession(t, "", "between(0, 200, X).", most, impl.MaxFuel, "")
}

func TestSessionAtMaxOutput(t *testing.T) {
	const facts = "w(0) :- !. w(N) :- write(aaaaaaaaaa), M is N - 1, w(M). "
	most := strings.Repeat("a", impl.MaxOutput)
	wantTalks(t, []talks{
		{facts, "w(400)", 0, most + "\ntrue."},
		{facts, "w(399), write(aaaaaaaaa), nl", 0, most[1:] + "\ntrue."},
		{facts, "w(400), write(b)", 0, most + "b\nmemory."},
		{facts, "w(400), nl", 0, most + "\nmemory."},
		{facts, "w(399), write(aaaaaaaaa), write(bcdefghij)", 0, most[1:] + "bcdefghij\nmemory."},
		{facts, "w(399), (X = 1 ; write(aaaaaaaaaa), X = 2 ; write(b))", 5, most[10:] + "\nX = 1 ;\naaaaaaaaaa\nX = 2 ;\nb\nmemory."},
		{facts + ":- w(400).", "true", 0, most + "\ntrue."},
		{facts + ":- w(400).", "write(b)", 0, most + "b\nmemory."},
		{facts + ":- w(400). :- write(''). :- write(b).", "true", 0, most + "b\nmemory."},
	})
}

// sessionPieces are put together to texts of all sorts.
var sessionPieces = []string{
	"a", "b", "p", "X", "Y", "_", "1", "-1", "0'a", "\"ab\"", "'A b'", "'", "\"", "(", ")", "[", "]", "{", "}", ",", "|", ".", ". ", ".\n", " ", "\n", "% c\n", "/*", "*/", ":-", "-->", ";", "->", "\\+", "=", "is", "+", "-", "!", "\\",
	"p(X)", "p(1). ", "p(2). ", "p(X) :- ", "write(", "nl", "halt", "throw(", "op(", "700, xfx, ", "dynamic ", "initialization(", "p/1", ":- op(200, xfy, w). ", " w ", "\x00", "\xff", "`", "99999999999999999999", "f(X, Y)", "call(", "findall(X, ", "X = f(X)", "assertz(", "retract(",
}

func mixedText(d *dice, pieces int) string {
	var text strings.Builder
	for range pieces {
		text.WriteString(sessionPieces[d.below(len(sessionPieces))])
	}
	return text.String()
}

// Whatever the texts are, there is an answer, and it is one that the document names.
func TestSessionOfAnyTexts(t *testing.T) {
	t.Parallel()
	d := dice(142)
	kinds := map[string]int{}
	for range 20000 {
		program, query := "p(1). p(f(X, X)). ", mixedText(&d, d.below(6))
		switch d.below(3) {
		case 0:
			program += mixedText(&d, d.below(8))
		case 1:
			program += ":- op(200, xfy, w). :- p(X), write(X). a w b :- nl. "
		}
		if d.below(4) > 0 {
			query += " ."
		}
		replies, fuel := d.below(5), 300
		got := string(impl.Session([]byte(program), []byte(query), replies, fuel))
		p, ops, code, at := impl.Consult([]byte(program))
		if (code == impl.CodeOK) == strings.HasPrefix(got, "program: ") || !strings.HasSuffix(got, "\n") {
			t.Fatalf("%q ?- %q: %q, %d@%d", program, query, got, code, at)
		}
		if code != impl.CodeOK {
			kinds["program"]++
			continue
		}
		if !impl.ValidProgram(p) || !impl.ValidOps(ops) || at != 0 {
			t.Fatalf("%q: %s", program, showProgram(p))
		}
		if strings.HasPrefix(got, "query: ") {
			kinds["query"]++
			continue
		}
		kinds["run"]++
		a := askedText(t, program, query)
		if want := a.refSession(impl.RunMachine(a.ops, a.program, a.query, replies+1, fuel, true), replies); got != want {
			t.Fatalf("%q ?- %q:\n got %q\nwant %q", program, query, got, want)
		}
	}
	if kinds["program"] < 1000 || kinds["query"] < 1000 || kinds["run"] < 1000 {
		t.Error(kinds)
	}
}
