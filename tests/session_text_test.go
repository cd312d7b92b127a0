package tests

import (
	"fmt"
	"math"
	"strings"
	"testing"

	"loop.example/s00095/impl"
)

const appFacts = "app([], L, L).\napp([H|T], L, [H|R]) :- app(T, L, R).\n"

func TestSessionReplies(t *testing.T) {
	wantTalks(t, []talks{
		{appFacts, "app(X, Y, [1])", 2, "X = [],\nY = [1] ;\nX = [1],\nY = [] ;\nfalse."},
		{appFacts, "app(X, Y, [1])", 1, "X = [],\nY = [1] ;\nX = [1],\nY = []."},
		{appFacts, "app(X, Y, [1])", 0, "X = [],\nY = [1]."},
		{appFacts, "app(X, Y, [1])", 50, "X = [],\nY = [1] ;\nX = [1],\nY = [] ;\nfalse."},
		{"", "true", 0, "true."},
		{"", "true", 1, "true ;\nfalse."},
		{"", "true", 99, "true ;\nfalse."},
		{"", "fail", 0, "false."},
		{"", "fail", 99, "false."},
		{"", "true ; true ; true", 1, "true ;\ntrue."},
		{"", "true ; true ; true", 3, "true ;\ntrue ;\ntrue ;\nfalse."},
		{"p(1). p(2). p(3).", "p(X)", 0, "X = 1."},
		{"p(1). p(2). p(3).", "p(X)", 1, "X = 1 ;\nX = 2."},
		{"p(1). p(2). p(3).", "p(X)", 2, "X = 1 ;\nX = 2 ;\nX = 3."},
		{"p(1). p(2). p(3).", "p(X)", 3, "X = 1 ;\nX = 2 ;\nX = 3 ;\nfalse."},
		{"p(1). p(2). p(3).", "p(2)", 3, "true ;\nfalse."},
		{"p(1). p(2). p(3).", "once(p(X))", 3, "X = 1 ;\nfalse."},
	})
	// A run that would not end is not gone on with when there are no more replies.
	wantTalks(t, []talks{
		{"p. p :- p.", "p", 2, "true ;\ntrue ;\ntrue."},
		{"l :- l.", "true ; l", 0, "true."},
		{"l :- l.", "X = 1 ; X = 2 ; l", 1, "X = 1 ;\nX = 2."},
		{"l :- l.", "X = 1 ; X = 2 ; write(on), l", 1, "X = 1 ;\nX = 2."},
		{"l :- l.", "X = 1 ; X = 2 ; write(on), l", 2, "X = 1 ;\nX = 2 ;\non\nfuel."},
		{"", "true ; throw(a)", 0, "true."},
		{"", "true ; halt", 0, "true."},
	})
}

// wantSession asks for all of a text.
func wantSession(t *testing.T, program string, query string, replies int, fuel int, want string) {
	t.Helper()
	if got := string(impl.Session([]byte(program), []byte(query), replies, fuel)); got != want {
		t.Errorf("%.200q ?- %.200q, %d replies, %d steps:\n got %.500q\nwant %.500q", program, query, replies, fuel, got, want)
	}
}

func TestSessionBadNumbers(t *testing.T) {
	for _, texts := range [][2]string{{"p(1).", "p(X)."}, {"", "fail."}, {"p(", "true."}, {"", "p("}, {"1.", "p("}, {":- halt.", "true."}} {
		for _, bad := range []int{-1, impl.MaxAnswers, impl.MaxAnswers + 1, math.MaxInt, math.MinInt} {
			wantSession(t, texts[0], texts[1], bad, 100, "")
			wantSession(t, texts[0], texts[1], bad, -1, "")
		}
		for _, bad := range []int{-1, impl.MaxFuel + 1, math.MaxInt, math.MinInt} {
			wantSession(t, texts[0], texts[1], 1, bad, "")
		}
	}
	for _, replies := range []int{0, 1, impl.MaxAnswers - 2, impl.MaxAnswers - 1} {
		for _, fuel := range []int{0, 1, impl.MaxFuel - 1, impl.MaxFuel} {
			wantSession(t, "p(", "true.", replies, fuel, "program: syntax at 2\n")
			wantSession(t, "", "fail.", replies, fuel, "false.\n")
		}
	}
}

func TestSessionFuel(t *testing.T) {
	for fuel, want := range []string{"fuel.\n", "true.\n", "true.\n"} {
		wantSession(t, "", "true.", 0, fuel, want)
	}
	// A run of so many steps: each of them, and none.
	steps := ran(t, "p(1). p(2). p(3).", "p(X), write(X), nl", impl.MaxAnswers, impl.MaxFuel, true).Steps
	all := "1\nX = 1 ;\n2\nX = 2 ;\n3\nX = 3 ;\nfalse.\n"
	for fuel := range steps + 3 {
		got := string(impl.Session([]byte("p(1). p(2). p(3)."), []byte("p(X), write(X), nl."), 9, fuel))
		said, isCut := strings.CutSuffix(got, "fuel.\n")
		if isCut != (fuel < steps) || !strings.HasPrefix(all, strings.TrimSuffix(said, "\n")) || !isCut && got != all {
			t.Errorf("%d of %d steps: %q", fuel, steps, got)
		}
	}
	wantSession(t, "p :- p.", "p.", 0, impl.MaxFuel, "fuel.\n")
	wantSession(t, "p :- p.", "p.", 99, 0, "fuel.\n")
	wantSession(t, ":- fail.", "p.", 0, 0, "fuel.\n")
}

func TestSessionProgramFaults(t *testing.T) {
	words := map[int]string{impl.CodeSyntax: "syntax", impl.CodeLimit: "bounds", impl.CodeFail: "clause"}
	wide := wideGoal(impl.MaxArity - 1)
	for _, src := range []string{
		"p(", "a. b", "a b.", ") .", "a. 'b", "a 12a.", "a. /* b", "X = 1000000000000001.", strings.Repeat("a", impl.MaxAtom+1) + ".", strings.Repeat(" ", impl.MaxSource+1), strings.Repeat("a. ", impl.MaxClauses+1),
		"a. f(" + argList(impl.MaxArity+1) + ").", ":- op(1, zfx, a).", "a. :- op(1, xfx, 7).", "a. 1.", "X.", "a :- 1.", "a. atom(X) :- a.", "a. b. c --> 1.", ":- dynamic foo.", "a. :- '$a'.", "a. s --> " + wide + ".",
		manyOf(impl.MaxPreds+1, "", numbered("p%d. ")), "1. b c.", "a. 1. 'b",
	} {
		_, _, code, at := impl.Consult([]byte(src))
		want := fmt.Sprintf("program: %s at %d\n", words[code], at)
		if words[code] == "" {
			t.Errorf("%.100q: code %d", src, code)
		}
		// The query plays no part, nor do replies and fuel.
		for _, query := range []string{"true.", "p(", "", "halt."} {
			wantSession(t, src, query, 0, 0, want)
			wantSession(t, src, query, impl.MaxAnswers-1, impl.MaxFuel, want)
		}
	}
	wantSession(t, "p(", "true.", 3, 100, "program: syntax at 2\n")
	wantSession(t, "a. 1.", "true.", 3, 100, "program: clause at 3\n")
	wantSession(t, ":- op(1, zfx, a).", "true.", 3, 100, "program: clause at 0\n")
	wantSession(t, strings.Repeat(" ", impl.MaxSource+1), "true.", 3, 100, "program: bounds at 10000\n")
	// What stands ahead of a fault is not done.
	wantSession(t, ":- write(a), halt. b c.", "true.", 3, 100, "program: syntax at 21\n")
	wantSession(t, ":- write(a), halt. 1.", "true.", 3, 100, "program: clause at 19\n")
}

func TestSessionQueryFaults(t *testing.T) {
	words := map[int]string{impl.CodeSyntax: "syntax", impl.CodeLimit: "bounds"}
	_, broken := greatTexts()
	faults := []string{
		"", " ", "p", "p(a", "a. b.", "a b.", "a. .", ".", ") .", "'a", "a. 'b", "a 12a.", "/* a.", "X = 1000000000000001.", strings.Repeat("a", impl.MaxAtom+1) + ".", strings.Repeat(" ", impl.MaxSource+1), "p(X) :- ",
	}
	for _, text := range broken {
		faults = append(faults, "  "+text+" .")
	}
	for _, src := range faults {
		_, code, at := impl.ReadTerm(impl.DefaultOps(), []byte(src))
		want := fmt.Sprintf("query: %s at %d\n", words[code], at)
		if words[code] == "" {
			t.Errorf("%.100q: code %d", src, code)
		}
		// No goal of the program is done.
		for _, program := range []string{"", "p(1).", ":- write(a), halt.", ":- throw(a)."} {
			wantSession(t, program, src, 0, 0, want)
			wantSession(t, program, src, impl.MaxAnswers-1, impl.MaxFuel, want)
		}
	}
	wantSession(t, "", "p(a", 0, 100, "query: syntax at 3\n")
	wantSession(t, "", "", 0, 100, "query: syntax at 0\n")
	wantSession(t, "", "a. b.", 0, 100, "query: syntax at 3\n")
	wantSession(t, "", " f("+argList(impl.MaxArity+1)+").", 0, 100, "query: bounds at 0\n")
	// A query that is too long for a text has its place, too.
	wantSession(t, "", strings.Repeat("a", impl.MaxSource+1), 0, 100, "query: bounds at 10000\n")
}

// A query is read with the operators of its program, and answers are written with them.
func TestSessionOps(t *testing.T) {
	likes := ":- op(700, xfx, likes). a likes b. c likes d. "
	wantTalks(t, []talks{
		{likes, "X likes Y", 5, "X = a,\nY = b ;\nX = c,\nY = d ;\nfalse."},
		{likes, "X = (a likes b)", 0, "X = (a likes b)."},
		{likes, "X = [a likes b]", 0, "X = [a likes b]."},
		{likes, "write(a likes b)", 0, "a likes b\ntrue."},
		{likes, "throw(a likes 'B c')", 0, "error: a likes 'B c'"},
		{likes + ":- op(699, xfx, likes).", "X = a likes b", 0, "X = a likes b."},
		{likes + ":- op(0, xfx, likes).", "likes(X, b), Y = likes(X, X)", 0, "X = a,\nY = likes(a,a)."},
		{"", "X = (a , b ; c :- d)", 0, "X = (a,b;c:-d)."},
		{":- op(0, xfx, =). p(=(a, b)).", "p(X)", 0, "X = =(a,b)."},
		{":- op(200, xfy, ++).", "X = a ++ b ++ c", 0, "X = a++b++c."},
		{":- op(200, fy, not). :- op(0, yfx, -).", "X = f(not not a, -(1, 2), - 1)", 0, "X = f(not not a,-(1,2),- 1)."},
	})
	wantSession(t, likes+":- op(0, xfx, likes).", "X likes Y.", 0, 100, "query: syntax at 2\n")
	wantSession(t, "", "X likes Y.", 0, 100, "query: syntax at 2\n")
}

// Each way in which a run ends, alone, behind answers, and behind goals of the program.
func TestSessionEnds(t *testing.T) {
	ends := map[string]string{
		"fail": "false.", "throw(f(X, 'B c', Y, X))": "error: f(_0,'B c',_1,_0)", "halt": "halt.", "loop": "fuel.", "fill(0)": "memory.", "cycle": "cyclic.", "great": "bounds.",
		"missing(1)": "error: error(existence_error(procedure,missing/1),missing/1)", "Z is foo": "error: error(type_error(evaluable,foo/0),(is)/2)", "Z": "error: error(instantiation_error,call/1)", "call(3)": "error: error(type_error(callable,3),call/1)",
		"throw((a :- b, c))": "error: a:-b,c", "throw(-)": "error: -", "throw('\\n')": "error: '\\n'", "throw(-(1))": "error: - 1", "throw([a|X])": "error: [a|_0]", "throw((:- a))": "error: :-a",
	}
	const facts = "loop :- loop. fill(X) :- fill(s(X)), true. cycle :- X = f(X). great :- length(L, 500), X = [L, L, L, L], copy_term(X, Y). "
	for goal, want := range ends {
		wantTalks(t, []talks{
			{facts, goal, 0, want},
			{facts, goal, 9, want},
			{facts, "A = 1 ; A = 2 ; " + goal, 9, unboundBeside("A = 1", goal) + " ;\n" + unboundBeside("A = 2", goal) + " ;\n" + want},
			{facts, "A = 1 ; A = 2 ; " + goal, 1, unboundBeside("A = 1", goal) + " ;\n" + unboundBeside("A = 2", goal) + "."},
			{facts, "write(a), (A = 1 ; write(b), " + goal + ")", 9, "a\n" + unboundBeside("A = 1", goal) + " ;\nb\n" + want},
			{facts, "write(a), nl, " + goal, 9, "a\n" + want},
			{facts + ":- write(go), " + goal + ". ", "write(a)", 9, "go\n" + want},
			{facts + ":- write(go), nl. :- " + goal + ". :- write(no).", "write(a)", 9, "go\n" + want},
		})
	}
	wantTalks(t, []talks{
		{"", "3", 9, "error: error(type_error(callable,3),call/1)"},
		{"", "X = 1, 3", 9, "error: error(type_error(callable,(_0=1,3)),call/1)"},
		{":- true.", "3", 9, "error: error(type_error(callable,(once(true),3)),call/1)"},
		{":- write(X). :- true.", "3", 9, "error: error(type_error(callable,(once(write(_0)),once(true),3)),call/1)"},
		{"", "'$a'", 9, "error: error(type_error(callable,'$a'),call/1)"},
	})
}

// unboundBeside is an answer in which the variables of a goal, behind one that is bound, stand for themselves.
func unboundBeside(answer string, goal string) string {
	clause, _, _ := impl.ReadTerm(impl.DefaultOps(), []byte(goal+" ."))
	for i, name := range clause.Names {
		answer += fmt.Sprintf(",\n%s = _%d", name, i)
	}
	return answer
}

// What was written stands in lines of its own ahead of the answer, or of the last line.
func TestSessionWritten(t *testing.T) {
	wantTalks(t, []talks{
		{"", "write(hi)", 0, "hi\ntrue."},
		{"", "write(hi), nl", 0, "hi\ntrue."},
		{"", "nl", 0, "\ntrue."},
		{"", "nl, nl", 0, "\n\ntrue."},
		{"", "write(hi), nl, nl", 0, "hi\n\ntrue."},
		{"", "nl, write(hi)", 0, "\nhi\ntrue."},
		{"", "write(hi), nl, write(you), X = 1", 0, "hi\nyou\nX = 1."},
		{"", "write('')", 0, "true."},
		{"", "write(' ')", 0, " \ntrue."},
		{"", "write('a\\n')", 0, "a\ntrue."},
		{"", "write('\\n')", 0, "\ntrue."},
		{"", "writeq('a\\n')", 0, "'a\\n'\ntrue."},
		{"", "write('\\x00\\\\xff\\')", 0, "\x00\xff\ntrue."},
		{"", "tab(3)", 0, "   \ntrue."},
		{"", "write('X = 1 ;')", 0, "X = 1 ;\ntrue."},
		{"", "write(a), fail", 0, "a\nfalse."},
		{"", "write(a), nl, fail", 0, "a\nfalse."},
		{"", "nl, fail", 0, "\nfalse."},
		{"", "write(a) ; write(b)", 0, "a\ntrue."},
		{"", "write(a) ; write(b)", 1, "a\ntrue ;\nb\ntrue."},
		{"", "write(a) ; write(b)", 2, "a\ntrue ;\nb\ntrue ;\nfalse."},
		{"", "write(a) ; write(b), nl ; true ; nl", 9, "a\ntrue ;\nb\ntrue ;\ntrue ;\n\ntrue ;\nfalse."},
		{"", "true ; write(a), fail", 0, "true."},
		{"", "true ; write(a), fail", 1, "true ;\na\nfalse."},
		{"", "true ; write(a), nl, fail", 1, "true ;\na\nfalse."},
		{"", "write(a), (true ; write(b), fail ; write(c), true ; write(d), fail)", 9, "a\ntrue ;\nbc\ntrue ;\nd\nfalse."},
		{"", "write(a), throw(b)", 0, "a\nerror: b"},
		{"", "write(a), nl, halt", 0, "a\nhalt."},
		{"", "write(a), halt", 0, "a\nhalt."},
		{"p(1). p(2). p(3).", "p(X), write(X), X > 1", 9, "12\nX = 2 ;\n3\nX = 3 ;\nfalse."},
		{"p(1). p(2). p(3).", "p(X), write(X), nl, X > 1", 9, "1\n2\nX = 2 ;\n3\nX = 3 ;\nfalse."},
		{"", "\\+ (write(a), fail), findall(X, (member(X) ; write(b), X = 1), L)", 0, "a\nerror: error(existence_error(procedure,member/1),member/1)"},
		{"", "catch((write(a), throw(b)), X, (write(c), nl))", 0, "ac\nX = b."},
	})
}

// The variables that are shown are those of the query that have a name.
func TestSessionVariables(t *testing.T) {
	wantTalks(t, []talks{
		{"", "X = Y", 0, "X = _0,\nY = _0."},
		{"", "Y = X", 0, "Y = _0,\nX = _0."},
		{"", "f(X, Y, Z) = f(A, A, B)", 0, "X = _0,\nY = _0,\nZ = _1,\nA = _0,\nB = _1."},
		{"", "X = f(Y, Z, Y)", 0, "X = f(_0,_1,_0),\nY = _0,\nZ = _1."},
		{"", "Y = 1, X = f(Y, Z)", 0, "Y = 1,\nX = f(1,_0),\nZ = _0."},
		{"", "f(_, X, _) = f(1, 2, 3)", 0, "X = 2."},
		{"", "f(_, X, _) = f(A, B, C)", 0, "X = _1,\nA = _0,\nB = _1,\nC = _2."},
		{"", "_ = 1", 0, "true."},
		{"", "_ = _", 1, "true ;\nfalse."},
		{"", "_X = 1, __ = 2, _1 = 3, Long_Name9 = 4", 0, "_X = 1,\n__ = 2,\n_1 = 3,\nLong_Name9 = 4."},
		{"", "_1 = _0", 0, "_1 = _0,\n_0 = _0."},
		{"", "true ; X = 1", 1, "X = _0 ;\nX = 1."},
		{"", "X = [A, B|C], A = x, C = []", 0, "X = [x,_0],\nA = x,\nB = _0,\nC = []."},
		{"", "X = (a :- b), Y = (c, d), Z = - 1, V = -(-(1)), W = 1 - (2 - 3)", 0, "X = (a:-b),\nY = (c,d),\nZ = - 1,\nV = - - 1,\nW = 1-(2-3)."},
		{"", "X = 'A b', Y = \"\", Z = \"a\", V = {x}, W = ''", 0, "X = 'A b',\nY = [],\nZ = [97],\nV = {x},\nW = ''."},
		{"p(X, Y, X).", "p(A, B, C)", 0, "A = _0,\nB = _1,\nC = _0."},
		{"p(X) :- X = f(_, Y, Y).", "p(A)", 0, "A = f(_0,_1,_1)."},
		{"", "findall(X, (X = 1 ; X = 2), L)", 0, "X = _0,\nL = [1,2]."},
		{"", "catch(throw(f(X, Y)), f(A, B), true)", 0, "X = _0,\nY = _1,\nA = _2,\nB = _3."},
		{"", "copy_term(f(X, Y, X), Z)", 0, "X = _0,\nY = _1,\nZ = f(_2,_3,_2)."},
	})
}

// Goals are done once each, ahead of the first answer, and have variables of their own.
func TestSessionGoals(t *testing.T) {
	facts := "q(1). q(2). q(3). "
	wantTalks(t, []talks{
		{facts + ":- X = 1, write(X).", "q(X)", 1, "1\nX = 1 ;\nX = 2."},
		{facts + ":- q(X), write(X).", "q(X)", 9, "1\nX = 1 ;\nX = 2 ;\nX = 3 ;\nfalse."},
		{facts + ":- q(X), write(X). :- q(X), write(X), X > 1.", "q(X), write(X)", 1, "1121\nX = 1 ;\n2\nX = 2."},
		{facts + ":- q(X), write(X), nl. :- q(Y), write(Y), nl.", "true", 9, "1\n1\ntrue ;\nfalse."},
		{":- q(X), write(X). " + facts, "fail", 9, "1\nfalse."},
		{facts + ":- initialization(assertz(r(7))). :- initialization((q(X), assertz(r(X)))).", "r(X)", 9, "X = 7 ;\nX = 1 ;\nfalse."},
		{facts + ":- q(X), X > 1, assertz(r(X)). :- r(X), assertz(s(X)).", "r(X), s(Y)", 9, "X = 2,\nY = 2 ;\nfalse."},
		{":- fail.", "true", 9, "false."},
		{":- write(a). :- fail. :- write(b).", "write(c)", 9, "a\nfalse."},
		{":- throw(a).", "true", 9, "error: a"},
		{":- write(a). :- throw(f(X)). :- write(b).", "write(c)", 9, "a\nerror: f(_0)"},
		{":- halt.", "true", 9, "halt."},
		{":- write(a), nl. :- halt. :- write(b).", "write(c)", 9, "a\nhalt."},
		{":- missing.", "true", 0, "error: error(existence_error(procedure,missing/0),missing/0)"},
		{":- write(a). :- nl. :- write(b).", "true", 0, "a\nb\ntrue."},
		// A cut is one of its goal alone.
		{facts + ":- !. :- q(X), !, write(X). :- (q(X), X > 1, ! ; true), write(X).", "q(X)", 9, "12\nX = 1 ;\nX = 2 ;\nX = 3 ;\nfalse."},
		{facts + ":- q(X), !, fail.", "q(X)", 9, "false."},
		{facts + ":- true.", "q(X), !", 9, "X = 1 ;\nfalse."},
		{facts + ":- (true ; true).", "!, q(X)", 9, "X = 1 ;\nX = 2 ;\nX = 3 ;\nfalse."},
		// A ball of the query is not caught by a goal.
		{":- catch(true, X, write(caught)).", "throw(a)", 9, "error: a"},
		{":- catch(throw(a), X, (write(X), nl)).", "X = 1", 0, "a\nX = 1."},
		{":- (true -> true ; true). :- \\+ fail. :- forall(fail, true). :- once(true). :- call(true).", "X = 1", 9, "X = 1 ;\nfalse."},
	})
}

// As they stand in the answer, so that the numbers below are those of goals.
func TestSessionGoalVariables(t *testing.T) {
	wantTalks(t, []talks{
		{":- Z = Z.", "X = X", 0, "X = _1."},
		{":- X = X.", "X = X", 0, "X = _1."},
		{":- X = X. :- X = X.", "X = X", 0, "X = _2."},
		{":- X = Y. :- f(X, Y) = Z.", "X = Y", 0, "X = _3,\nY = _3."},
		{":- X = Y.", "Y = Z, X = f(_)", 0, "Y = _1,\nZ = _1,\nX = f(_2)."},
		{":- X = 1.", "X = Y", 0, "X = _0,\nY = _0."},
		{":- X = 1. :- X = 2. :- X = 3.", "X = 4", 0, "X = 4."},
		{":- X = 1, Y = X. :- Y = 2.", "var(X), var(Y)", 0, "X = _0,\nY = _1."},
		{":- f(_, _, _) = f(X, Y, Z).", "X = _", 0, "X = _3."},
		{":- f(A, B).\nf(X, X).", "X = f(Y)", 0, "X = f(_1),\nY = _1."},
		{":- write(X). :- write(f(Y, X)).", "write(X)", 0, "_0f(_0,_1)_0\nX = _3."},
		{":- X = Y, Y = a.", "true", 0, "true."},
		{":- X = Y.", "true", 1, "true ;\nfalse."},
		{":- X = Y.", "throw(f(X))", 0, "error: f(_0)"},
	})
}

// A query that is valid alone, and goals that are, may be too great together.
func TestSessionTogether(t *testing.T) {
	// The comma and once of each goal take two cells, but its normal body has one more.
	trues := func(n int) string { return manyOf(n, ", ", func(int) string { return "true" }) }
	for _, goals := range []int{1, 2, 100, 300} {
		program := "f(a). " + strings.Repeat(":- f(X). ", goals)
		if goals > 20 {
			program = "f(a). " + strings.Repeat(":- true. ", goals)
		}
		for _, ahead := range []string{"true", "atom(a)", "atom(a), atom(a)"} {
			cells := len(clauseTerm(ahead)) + 4*goals
			if goals <= 20 {
				cells += goals
			}
			most := (impl.MaxCells - cells) / 2
			wantSession(t, program, ahead+", "+trues(most)+".", 0, impl.MaxFuel, "true.\n")
			wantSession(t, program, ahead+", "+trues(most)+".", 1, impl.MaxFuel, "true ;\nfalse.\n")
			wantSession(t, program, ahead+", "+trues(most+1)+".", 1, impl.MaxFuel, "bounds.\n")
		}
	}
	wantSession(t, strings.Repeat(":- a. ", impl.MaxClauses-1), "true.", 0, 1000, "error: error(existence_error(procedure,a/0),a/0)\n")
	wantSession(t, strings.Repeat(":- a. ", impl.MaxClauses), "true.", 0, 1000, "bounds.\n")
	// Far beyond, and with nothing of what was to be written.
	wantSession(t, strings.Repeat(":- write(aaaaaaa). ", impl.MaxClauses), trues(900)+".", 0, 1000, "bounds.\n")
	wide := "f(" + strings.TrimSuffix(strings.Repeat("g("+argList(18)+"),", 18), ",") + ")"
	wantSession(t, strings.Repeat(":- X = "+wide+". ", 4), "X = "+wide+".", 0, 10000, "X = "+wide+".\n")
	wantSession(t, strings.Repeat(":- X = "+wide+". ", 5), "X = "+wide+".", 0, 10000, "bounds.\n")
	// More variables than a predicate has arguments.
	vars := func(n int) string { return "f(" + manyOf(n, ",", numbered("V%d")) + ")" }
	many := func(goals int, last int) string {
		return strings.Repeat(":- "+vars(5)+" = "+vars(5)+". ", goals) + ":- " + vars(last) + " = x ; true. "
	}
	wantSession(t, many(3, 3), "X = Y.", 0, 1000, "X = _18,\nY = _18.\n")
	wantSession(t, many(3, 4), "X = Y.", 0, 1000, "bounds.\n")
	// Nothing was written before.
	wantSession(t, ":- write(a). "+many(3, 4), "X = Y.", 0, 1000, "bounds.\n")
}

// Programs that have no code are beyond bounds, whatever is asked.
func TestSessionProgramsBeyondLimits(t *testing.T) {
	for what, src := range programsBeyondLimits() {
		for _, query := range []string{"true.", "halt.", "X = 1 ; write(a)."} {
			wantSession(t, src, query, 3, 100, "bounds.\n")
			wantSession(t, src+" :- write(a).", query, 3, 100, "bounds.\n")
		}
		wantSession(t, src, "p(", 3, 100, "query: syntax at 2\n")
		if t.Failed() {
			t.Fatal(what)
		}
	}
}
