package tests

import (
	"fmt"
	"strings"
	"testing"

	"loop.example/s00095/impl"
)

func wantShown(t *testing.T, ops []impl.Op, p impl.Program, want string) {
	t.Helper()
	if got := string(impl.ShowProgram(ops, p)); got != want {
		t.Errorf("%.300s:\n got %q\nwant %q", showProgram(p), got, want)
	}
}

func TestShowNothing(t *testing.T) {
	wantShown(t, impl.DefaultOps(), impl.Program{}, "")
	for _, ops := range badTables() {
		wantShown(t, ops, soundProgram(), "")
	}
	wantShown(t, nil, soundProgram(), "")
}

func TestShowPredicates(t *testing.T) {
	ops := impl.DefaultOps()
	for _, c := range []struct {
		pred impl.Pred
		want string
	}{
		{pred("p", 0), ":-dynamic p/0 .\n"},
		{dynamicPred("p", 2), ":-dynamic p/2 .\n"},
		{dynamicPred("p", 1, "p(a) :- true", "p(X0) :- q(X0)"), ":-dynamic p/1 .\np(a) .\np(_0):-q(_0) .\n"},
		{pred("p", 1, "p(a) :- true", "p(X0) :- q(X0,X1), r"), "p(a) .\np(_0):-q(_0,_1),r .\n"},
		{pred("p", 0, "p :- true"), "p .\n"},
		{pred("p", 0, "p :- fail"), "p:-fail .\n"},
		{pred("p", 0, "p :- true, true"), "p:-true,true .\n"},
		{pred("p", 0, "p :- true(X0)"), "p:-true(_0) .\n"},
		{pred("p", 0, "p :- 'true '"), "p:-'true ' .\n"},
		{pred("B c", 20), ":-dynamic 'B c'/20 .\n"},
		{pred("", 0, "'' :- ''"), "'':-'' .\n"},
		{pred("+", 2), ":-dynamic (+)/2 .\n"},
		{pred("dynamic", 1), ":-dynamic (dynamic)/1 .\n"},
		{pred("dynamic", 0, "(dynamic) :- true"), "dynamic .\n"},
		{pred(".", 2, "[X0] :- [a|X0]"), "[_0]:-[a|_0] .\n"},
		{pred("+", 2, "X0 + X1 :- true", "'A' + 1 :- b"), "_0+_1 .\n'A'+1:-b .\n"},
		{pred("p", 0, "p :- (a :- b)"), "p:-(a:-b) .\n"},
		{pred("p", 0, "p :- (a, b ; c -> \\+ d)"), "p:-a,b;c-> \\+d .\n"},
	} {
		wantShown(t, ops, programWith(c.pred), c.want)
	}
}

func TestShowGoals(t *testing.T) {
	wantShown(t, impl.DefaultOps(), impl.Program{Goals: goalTerms("a", "f(X3,'B')", "(a, !)", "call(X0)", "dynamic(p/1)", "initialization(a)", "[]", "-", "(:- a)")},
		":-a .\n:-f(_3,'B') .\n:-a,! .\n:-call(_0) .\n:-dynamic p/1 .\n:-initialization(a) .\n:-[] .\n:- (-) .\n:- (:-a) .\n")
}

func TestShowInOrder(t *testing.T) {
	wantShown(t, impl.DefaultOps(), soundProgram(), strings.Join([]string{
		"p(a)", "p(_0):-q(_0,_1),(_1=b,!;call(_1))", ":-dynamic q/2", "q(_0,_1)", ":-dynamic r/0", ":-dynamic s/0", `p:- \+ (a->b)`, ":-dynamic ''/20", "[_0|_0]:-[a]",
		":-a", ":-f(_7,_3)", `:-call(_5),\+!`, "",
	}, " .\n"))
}

func TestShowWithOtherTables(t *testing.T) {
	p := impl.Program{Preds: []impl.Pred{dynamicPred("likes", 2, "likes(a,X0) :- (b, c)")}, Goals: goalTerms("likes(a,b)")}
	wantShown(t, []impl.Op{comma()}, p, ":-(dynamic(/(likes,2))) .\n:-(likes(a,_0),(b,c)) .\n:-(likes(a,b)) .\n")
	wantShown(t, defaultWith(t, op(700, "xfx", "likes")), p, ":-dynamic (likes)/2 .\na likes _0:-b,c .\n:-a likes b .\n")
	wantShown(t, without(impl.DefaultOps(), ":-", true), p, ":-((dynamic likes/2)) .\nlikes(a,_0):-b,c .\n:-(likes(a,b)) .\n")
	wantShown(t, without(impl.DefaultOps(), ":-", false), p, ":-dynamic likes/2 .\n:-(likes(a,_0),(b,c)) .\n:-likes(a,b) .\n")
	wantShown(t, without(impl.DefaultOps(), "dynamic", true), p, ":-dynamic(likes/2) .\nlikes(a,_0):-b,c .\n:-likes(a,b) .\n")
	wantShown(t, without(impl.DefaultOps(), "/", false), p, ":-dynamic /(likes,2) .\nlikes(a,_0):-b,c .\n:-likes(a,b) .\n")
	wantShown(t, defaultWith(t, op(1200, "xf", "likes")), p, ":-dynamic (likes)/2 .\nlikes(a,_0):-b,c .\n:-likes(a,b) .\n")
}

// builtAgain reads and builds what ShowProgram writes.
func builtAgain(t *testing.T, ops []impl.Op, p impl.Program) impl.Program {
	t.Helper()
	text := impl.ShowProgram(ops, p)
	clauses, after, code, at := impl.ReadClauses(ops, text)
	if code != impl.CodeOK || showOps(after) != showOps(ops) {
		t.Errorf("%.300q: read with %d@%d", text, code, at)
		return impl.Program{}
	}
	again, code, at := impl.BuildProgram(clauses)
	if code != impl.CodeOK {
		t.Errorf("%.300q: built with %d@%d", text, code, at)
	}
	return again
}

func wantBuiltAgain(t *testing.T, ops []impl.Op, p impl.Program) {
	t.Helper()
	wantProgram(t, fmt.Sprintf("%.200q", impl.ShowProgram(ops, p)), builtAgain(t, ops, p), p)
}

func TestShownIsBuiltAgain(t *testing.T) {
	sources := []string{
		"", "a.", "a. b. a(1). b. :- dynamic a/1.", ":- dynamic a/0, b/1, ''/2, 'X y'/20, (+)/2, (dynamic)/1, [call/0].", "p(X, Y) :- q(Y), X, once(Y) ; r -> \\+ s, forall(X, Y).", "p :- (a :- b), (c --> d), [e|F], {g}, \"text\", 'H i'(-1, - 1, 1 - 1).",
		":- a. :- X. :- f(X, Y), g(Y, X). :- initialization((a ; b)). :- (:- a). :- [a].", "s --> [a], t(X), {u(X)} ; !, \\+ v, X. s, [b] --> \"cd\".", "true(a). dynamic(x). initialization(x). op(1, 2, 3). (dynamic) :- dynamic(x).",
		"p :- true. p :- (true, true). p :- fail.", "'\\x00\\\\n'('\\xff\\'). '\\'\\\\'.", "- 1. -(1, 2). X - Y. \\ a. a :- (-), (:-).",
	}
	tables := append([][]impl.Op{{comma()}, defaultWith(t, op(700, "xfx", "a"), op(200, "fy", "p"), op(1200, "xf", "true"), op(1, "yfx", "X y"))}, goodTables()...)
	for _, src := range sources {
		p := built(t, src)
		for _, ops := range append(tables, impl.DefaultOps()) {
			wantBuiltAgain(t, ops, p)
		}
	}
}
