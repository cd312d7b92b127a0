package tests

import (
	"fmt"
	"strings"
	"testing"

	"loop.example/s00095/impl"
)

func TestConsultNothing(t *testing.T) {
	for _, src := range []string{"", " ", "\n\t\r", "% a.\n", "/* a. */", ":- op(700, xfx, likes). :- op(0, xfx, likes).", ":- dynamic []."} {
		wantConsulted(t, src, impl.Program{}, impl.DefaultOps())
	}
	p, ops, code, at := impl.Consult(nil)
	if !isZeroProgram(p) || showOps(ops) != showOps(impl.DefaultOps()) || code != impl.CodeOK || at != 0 {
		t.Errorf("%d@%d %s", code, at, showProgram(p))
	}
}

func TestConsultProgram(t *testing.T) {
	wantConsulted(t, "app([], L, L).\napp([H|T], L, [H|R]) :- app(T, L, R).\n",
		programWith(pred("app", 3, "app([],X0,X0) :- true", "app([X0|X1],X2,[X0|X3]) :- app(X1,X2,X3)")), impl.DefaultOps())
	wantConsulted(t, "a(X) :- once(X). :- b(Y, X), Y. s --> [c], s. :- dynamic d/0, a/1. :- initialization(X). d.", impl.Program{
		Preds: []impl.Pred{dynamicPred("a", 1, "a(X0) :- (call(X0) -> true)"), pred("s", 2, "s(X0,X1) :- X0 = [c|X2], s(X2,X1)"), dynamicPred("d", 0, "d :- true")},
		Goals: goalTerms("b(X0,X1), call(X0)", "call(X0)"),
	}, impl.DefaultOps())
}

// The table is the one at the end, whatever clauses were read with before.
func TestConsultOps(t *testing.T) {
	likes := pred("likes", 2, "likes(a,b) :- true")
	wantConsulted(t, ":- op(700, xfx, likes). a likes b.", programWith(likes), defaultWith(t, op(700, "xfx", "likes")))
	wantConsulted(t, "likes(a, b). :- op(700, xfx, likes).", programWith(likes), defaultWith(t, op(700, "xfx", "likes")))
	wantConsulted(t, ":- op(700, xfx, likes). a likes b. :- op(0, xfx, likes).", programWith(likes), impl.DefaultOps())
	wantConsulted(t, ":- op(200, xfy, [likes, '&&']). :- op(9, yf, '!!'). p(a likes b && c, X '!!').",
		programWith(pred("p", 2, "p(likes(a,'&&'(b,c)),'!!'(X0)) :- true")), defaultWith(t, op(200, "xfy", "likes"), op(200, "xfy", "&&"), op(9, "yf", "!!")))
	wantConsulted(t, ":- op(0, xfx, is). p(is(X, 1)).", programWith(pred("p", 1, "p(is(X0,1)) :- true")), without(impl.DefaultOps(), "is", false))
	// Nothing is left of a table when the next text is read.
	wantNotConsulted(t, "a likes b.", impl.CodeSyntax, 2)
	full := impl.MaxOps - len(impl.DefaultOps())
	_, ops := consulted(t, ":- op(1, fy, ["+manyOf(full, ",", numbered("o%d"))+"]).")
	if len(ops) != impl.MaxOps {
		t.Errorf("%d operators", len(ops))
	}
	wantNotConsulted(t, "a. :- op(1, fy, ["+manyOf(full+1, ",", numbered("o%d"))+"]).", impl.CodeFail, 3)
}

// Each fault of ReadClauses, with its own code and offset.
func TestConsultTextFaults(t *testing.T) {
	for src, fault := range lexFaults() {
		wantNotConsulted(t, src, fault[0], fault[1])
	}
	for _, marked := range []string{"a. ¦.", "a. ¦) b.", "a. b¦", "a. b ¦c.", "a. b. f(¦", "a. f(b¦. c.", "a. X = ¦. b.", ":- op(1,fy,w). w w¦", "p(¦", "¦. a."} {
		src, at := unmarked(t, marked)
		wantNotConsulted(t, src, impl.CodeSyntax, at)
	}
	for _, args := range []string{"1201, xfx, a", "p, xfx, a", "200, xyz, a", "200, xfx, 7", "200, xfx, [a|b]", "200, xf, =", "200, fy, ','", "1100, xfy, '|'"} {
		wantNotConsulted(t, ":- op("+args+").", impl.CodeFail, 0)
		wantNotConsulted(t, "\n a. % b\n:- op("+args+"). b.", impl.CodeFail, 9)
	}
	_, broken := greatTexts()
	for _, text := range broken {
		wantNotConsulted(t, "a.\nb. "+text+" . c.", impl.CodeLimit, 6)
	}
}

// Each fault of BuildProgram, at the first token of the clause.
func TestConsultClauseFaults(t *testing.T) {
	for _, fault := range []string{
		"X", "1", "-1", "X :- a", "1 :- a", "p :- 1", "p :- a, 1", "p :- '$a'", "call(x)", "(a, b)", "!", "X = Y", "true", "[]", "{a}", "'$a'", "(:- a) :- c",
		":- 1", ":- a, 1", ":- '$1'", ":- initialization(1)", ":- dynamic foo", ":- dynamic call/1", ":- dynamic p/21", ":- dynamic [a]", "1 --> a", "s --> 1", "s, x --> a", "call --> a", "s --> {'$a'}",
	} {
		wantNotConsulted(t, fault+".", impl.CodeFail, 0)
		for _, before := range []string{"", " ", "% c\n", "a. ", "a. :- a. b --> c.\n\n:- dynamic d/0. ", ":- op(700, xfx, likes). ", "a. :- op(700, xfx, likes). :- op(1, fy, []). b likes c. /* 1. */"} {
			wantNotConsulted(t, before+fault+" . z. 1 .", impl.CodeFail, len(before))
			wantNotConsulted(t, before+"("+fault+") . z. 1 .", impl.CodeFail, len(before))
		}
	}
	wide := wideGoal(impl.MaxArity - 1)
	for _, fault := range []string{wide + " --> a.", "s --> " + wide + ".", "s --> a, " + wide + ", 1."} {
		wantNotConsulted(t, "a. :- op(1, fy, w).\n"+fault+" 1 .", impl.CodeLimit, 20)
	}
	many := manyOf(impl.MaxPreds, "", numbered("p%d. "))
	if p, _ := consulted(t, many+"p0. :- p1. :- dynamic p2/0."); len(p.Preds) != impl.MaxPreds {
		t.Errorf("%d predicates", len(p.Preds))
	}
	for _, fault := range []string{"q.", "p0(1).", "q --> a.", ":- dynamic q/0."} {
		wantNotConsulted(t, many+fault, impl.CodeLimit, len(many))
	}
	for what, clause := range map[string]func(n int) string{
		"a rule":         func(n int) string { return "p :- " + strings.Repeat("f(", n-3) + "a" + strings.Repeat(")", n-3) },
		"a fact":         func(n int) string { return strings.Repeat("f(", n-3) + "a" + strings.Repeat(")", n-3) },
		"a body":         func(n int) string { return "p :- X, " + strings.Repeat("f(", n-6) + "a" + strings.Repeat(")", n-6) },
		"a goal":         func(n int) string { return ":- X, " + strings.Repeat("f(", n-4) + "a" + strings.Repeat(")", n-4) },
		"a nonterminal":  func(n int) string { return "s --> " + strings.Repeat("f(", n-7) + "a" + strings.Repeat(")", n-7) },
		"once in a body": func(n int) string { return "p :- once(" + strings.Repeat("f(", n-5) + "a" + strings.Repeat(")", n-4) },
		"forall in goals": func(n int) string {
			return ":- forall(X, " + strings.Repeat("f(", n-6) + "a" + strings.Repeat(")", n-5)
		},
	} {
		consulted(t, "b. "+clause(impl.MaxCells)+".")
		wantNotConsulted(t, "b. "+clause(impl.MaxCells+1)+".", impl.CodeLimit, 3)
		if t.Failed() {
			t.Fatal(what)
		}
	}
}

// All of the text is read before a program is made of it.
func TestConsultReadsFirst(t *testing.T) {
	wantNotConsulted(t, "1. b c.", impl.CodeSyntax, 5)
	wantNotConsulted(t, "a. 1. b", impl.CodeSyntax, 7)
	wantNotConsulted(t, "call(x). 'b", impl.CodeSyntax, 9)
	wantNotConsulted(t, "1. :- op(1, 2, 3).", impl.CodeFail, 3)
	wantNotConsulted(t, "1. 2. 3.", impl.CodeFail, 0)
	wantNotConsulted(t, "1 . "+strings.Repeat("a. ", impl.MaxClauses), impl.CodeLimit, 4+3*(impl.MaxClauses-1))
	wantNotConsulted(t, "a. 1. "+strings.Repeat("a", impl.MaxAtom+1)+".", impl.CodeLimit, 6)
}

func TestConsultSourceBounds(t *testing.T) {
	blanks := func(n int) string { return strings.Repeat(" ", n) }
	for _, src := range []string{"", "a. b.", ":- a.", ":- op(200, xfx, w)."} {
		consulted(t, blanks(impl.MaxSource-len(src))+src)
		consulted(t, src+blanks(impl.MaxSource-len(src)))
		wantNotConsulted(t, blanks(impl.MaxSource+1-len(src))+src, impl.CodeLimit, impl.MaxSource)
		wantNotConsulted(t, src+blanks(impl.MaxSource+1-len(src)), impl.CodeLimit, impl.MaxSource)
	}
	wantNotConsulted(t, strings.Repeat("'", impl.MaxSource+1), impl.CodeLimit, impl.MaxSource)
	wantNotConsulted(t, "1. "+strings.Repeat("a. ", impl.MaxSource), impl.CodeLimit, impl.MaxSource)
	// A fault at the first and at the last byte that may be there.
	wantNotConsulted(t, "1."+blanks(impl.MaxSource-2), impl.CodeFail, 0)
	wantNotConsulted(t, blanks(impl.MaxSource-2)+"1.", impl.CodeFail, impl.MaxSource-2)
	wantNotConsulted(t, blanks(impl.MaxSource-1)+"a", impl.CodeSyntax, impl.MaxSource)
	wantNotConsulted(t, blanks(impl.MaxSource-1)+")", impl.CodeSyntax, impl.MaxSource-1)
}

func TestConsultMaxClauses(t *testing.T) {
	for _, clause := range []string{"a. ", ":- a. ", "a --> b. ", ":- dynamic a/0. ", "a :- b, c. "} {
		all := strings.Repeat(clause, impl.MaxClauses)
		p, _ := consulted(t, all)
		clauses := len(p.Goals)
		for _, q := range p.Preds {
			clauses += len(q.Clauses)
		}
		if clauses != impl.MaxClauses && clause != ":- dynamic a/0. " {
			t.Errorf("%s: %d clauses and goals", clause, clauses)
		}
		wantNotConsulted(t, all+clause, impl.CodeLimit, len(all))
		wantNotConsulted(t, all+"1. ", impl.CodeLimit, len(all))
		// An operator is no clause.
		consulted(t, ":- op(1, fy, w). "+all+":- op(2, fy, w). ")
		wantNotConsulted(t, all+":- op(1, fy, w). "+clause, impl.CodeLimit, len(all)+17)
	}
}

// shownAgain consults what ShowProgram writes, behind the directives with which the program was written.
func shownAgain(t *testing.T, directives string, ops []impl.Op, p impl.Program) {
	t.Helper()
	text := directives + string(impl.ShowProgram(ops, p))
	again, table, code, at := impl.Consult([]byte(text))
	if code != impl.CodeOK || at != 0 || showOps(table) != showOps(ops) {
		t.Errorf("%.500s: %d@%d", text, code, at)
		return
	}
	wantProgram(t, text, again, p)
}

// Promise 10.
func TestConsultShownPrograms(t *testing.T) {
	t.Parallel()
	d := dice(131)
	goals, dynamics := 0, 0
	for range 600 {
		src := mixedClauses(&d)
		for range d.below(4) {
			goal := strings.ReplaceAll(mixedGoalText(&d, d.below(4)), "'$a'", "missing")
			src += "\n" + []string{":- ", ":- initialization("}[d.below(2)] + goal
			src += map[bool]string{true: ").", false: "."}[strings.Contains(src[strings.LastIndex(src, "\n"):], "initialization")]
		}
		p, ops := consulted(t, src)
		goals += len(p.Goals)
		for _, q := range p.Preds {
			dynamics += boolNumber(q.Dynamic)
		}
		shownAgain(t, "", ops, p)
		if t.Failed() {
			return
		}
	}
	if goals < 500 || dynamics < 1000 {
		t.Errorf("only %d goals and %d Dynamic predicates", goals, dynamics)
	}
}

// The same with tables of all sorts: without the operators of clauses and lists of goals, too.
func TestConsultShownWithOps(t *testing.T) {
	t.Parallel()
	d := dice(132)
	added := []string{
		"op(700, xfx, likes)", "op(200, xfy, p)", "op(1100, xfy, q)", "op(999, fy, d)", "op(1200, xfx, app)", "op(300, xf, n)", "op(1150, fx, w)", "op(50, yf, '')", "op(0, xfx, is)",
		"op(0, xfx, =)", "op(0, yfx, -)", "op(700, xfx, -)", "op(0, fx, dynamic)", "op(0, yfx, /)", "op(0, xfy, ;)", "op(0, xfy, ->)", "op(0, fy, \\+)", "op(1200, fy, -)", "op(400, xfy, f)",
		"op(600, xfx, 'A b')", "op(1, fy, [a, b, missing])", "op(1000, xfy, e)", "op(0, xfx, (-->))", "op(0, xfx, :-)", "op(1105, xfy, '!')", "op(100, fx, '.')", "op(600, xfy, '.')",
	}
	for range 600 {
		clauses := mixedClauses(&d) + "\n:- write(a - b), X = [Y|Z], \\+ likes(X, Y). :- (f(- (1), -1, - a) ; 'A b'(1, 2) ; !, '.'(a))."
		directives := ""
		for range d.below(5) {
			added := added[d.below(len(added))]
			if _, _, code, _ := impl.Consult([]byte(directives + ":-(" + added + ").\n")); code == impl.CodeOK {
				directives += ":-(" + added + ").\n"
			}
		}
		// The last one, for behind it no other is read as one.
		if d.below(5) == 0 {
			directives += ":- op(0, fx, :-).\n"
		}
		p, _ := consulted(t, clauses)
		_, ops := consulted(t, directives)
		shownAgain(t, directives, ops, p)
		if t.Failed() {
			return
		}
	}
}

// Promise 10 at its own bounds: as many clauses and as much text as are read.
func TestConsultShownAtBounds(t *testing.T) {
	clauses := func(n int) string { return manyOf(n, "", numbered("p(%d) .\n")) }
	for _, src := range []string{
		clauses(impl.MaxClauses), ":-dynamic p/1 .\n" + clauses(impl.MaxClauses-1), manyOf(impl.MaxPreds, "", numbered("p%d :- a .\n")), strings.Repeat(":-a,b .\n", impl.MaxClauses),
		fmt.Sprintf("p(%s) .\n", strings.Repeat("'\\x00\\',", 19)+"-1000000000000000"), "'" + strings.Repeat("\\n", impl.MaxAtom) + "':- \\+a .\n",
		"p(" + strings.Repeat("f(", impl.MaxCells-4) + "a" + strings.Repeat(")", impl.MaxCells-3) + " .\n",
	} {
		p, ops := consulted(t, src)
		shownAgain(t, "", ops, p)
	}
	// A text with more clauses than are read is no such text.
	p, ops := consulted(t, clauses(impl.MaxClauses-1)+":- dynamic p/1, q/1.")
	if text := impl.ShowProgram(ops, p); strings.Count(string(text), " .\n") != impl.MaxClauses+1 {
		t.Errorf("%d clauses are shown", strings.Count(string(text), " .\n"))
	} else {
		wantNotConsulted(t, string(text), impl.CodeLimit, strings.Index(string(text), ":-dynamic q"))
	}
}
