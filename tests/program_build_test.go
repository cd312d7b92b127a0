package tests

import (
	"fmt"
	"strings"
	"testing"

	"loop.example/s00095/impl"
)

func wantBuilt(t *testing.T, src string, want impl.Program) {
	t.Helper()
	p, code, at := impl.BuildProgram(clausesIn(src))
	if code != impl.CodeOK || at != 0 || !impl.ValidProgram(p) {
		t.Errorf("%.200s: %d@%d, valid %v", src, code, at, impl.ValidProgram(p))
		return
	}
	wantProgram(t, src, p, want)
}

func wantNotBuilt(t *testing.T, what string, clauses []impl.Clause, code int, at int) {
	t.Helper()
	p, gotCode, gotAt := impl.BuildProgram(clauses)
	if gotCode != code || gotAt != at || !isZeroProgram(p) {
		t.Errorf("%.200s: %d@%d, want %d@%d; %d predicates, %d goals", what, gotCode, gotAt, code, at, len(p.Preds), len(p.Goals))
	}
}

func clausesOf(terms ...[]impl.Cell) []impl.Clause {
	var clauses []impl.Clause
	for _, x := range terms {
		clauses = append(clauses, impl.Clause{Term: x})
	}
	return clauses
}

func TestBuildNothing(t *testing.T) {
	wantBuilt(t, "", impl.Program{})
	p, code, at := impl.BuildProgram(nil)
	if code != impl.CodeOK || at != 0 || !isZeroProgram(p) {
		t.Errorf("%d@%d %s", code, at, showProgram(p))
	}
}

func TestBuildClauses(t *testing.T) {
	wantBuilt(t, "p.", programWith(pred("p", 0, "p :- true")))
	wantBuilt(t, "p(a, X, X).", programWith(pred("p", 3, "p(a,X0,X0) :- true")))
	wantBuilt(t, "p :- true.", programWith(pred("p", 0, "p :- true")))
	wantBuilt(t, "p(X) :- q(X, Y), r(Y).", programWith(pred("p", 1, "p(X0) :- q(X0,X1), r(X1)")))
	wantBuilt(t, "p :- X.", programWith(pred("p", 0, "p :- call(X0)")))
	wantBuilt(t, "p(Y) :- X, once(Y).", programWith(pred("p", 1, "p(X0) :- call(X1), (call(X0) -> true)")))
	wantBuilt(t, "p :- forall(X, Y).", programWith(pred("p", 0, `p :- \+ (call(X0), \+ call(X1))`)))
	wantBuilt(t, "[a].", programWith(pred(".", 2, "[a] :- true")))
	wantBuilt(t, "''. 'B c'(1) :- ''.", programWith(pred("", 0, "'' :- true"), pred("B c", 1, "'B c'(1) :- ''")))
	wantBuilt(t, "dynamic(a). initialization(a). op(a,b,c).", programWith(pred("dynamic", 1, "dynamic(a) :- true"), pred("initialization", 1, "initialization(a) :- true"), pred("op", 3, "op(a,b,c) :- true")))
	wantBuilt(t, "X ^ Y :- Z. ?- x. call. halt(1).", programWith(pred("^", 2, "X0 ^ X1 :- call(X2)"), pred("?-", 1, "(?- x) :- true"), pred("call", 0, "call :- true"), pred("halt", 1, "halt(1) :- true")))
	wantBuilt(t, "p :- (q :- r).", programWith(pred("p", 0, "p :- (q :- r)")))
	wantBuilt(t, wideGoal(impl.MaxArity)+".", programWith(pred("f", impl.MaxArity, wideGoal(impl.MaxArity)+" :- true")))
}

func TestBuildRenumbers(t *testing.T) {
	clauses := clausesOf(parsed("p(X9,X3) :- q(X3,X7), X9"), parsed("p(X5)"), parsed(":- f(X8,X2), X8"), parsed("s(X6), [X4] --> X2"), parsed("p(X1000000)"))
	p, code, _ := impl.BuildProgram(clauses)
	want := impl.Program{Preds: []impl.Pred{
		pred("p", 2, "p(X0,X1) :- q(X1,X2), call(X0)"), pred("p", 1, "p(X0) :- true", "p(X0) :- true"),
		pred("s", 3, "s(X0,X1,X2) :- phrase(X3,X1,X4), X2 = [X5|X4]"),
	}, Goals: goalTerms("f(X0,X1), call(X0)")}
	if code != impl.CodeOK {
		t.Errorf("%d", code)
	}
	wantProgram(t, "other numbers", p, want)
}

func TestBuildGrammars(t *testing.T) {
	wantBuilt(t, "s --> a.", programWith(pred("s", 2, "s(X0,X1) :- a(X0,X1)")))
	wantBuilt(t, "s(X) --> [X], {q(X)}. s(_), [b] --> !.", programWith(pred("s", 3,
		"s(X0,X1,X2) :- X1 = [X0|X3], (q(X0), X3 = X2)", "s(X0,X1,X2) :- (!, X1 = X3), X2 = [b|X3]")))
	wantBuilt(t, "s --> {X}.", programWith(pred("s", 2, "s(X0,X1) :- call(X2), X0 = X1")))
	wantBuilt(t, "s --> X. s(a, b).", programWith(pred("s", 2, "s(X0,X1) :- phrase(X2,X0,X1)", "s(a,b) :- true")))
	wantBuilt(t, "s --> {once(X)}, call(X).", programWith(pred("s", 2, "s(X0,X1) :- ((call(X2) -> true), X0 = X3), call(X2,X3,X1)")))
	wantBuilt(t, "once --> once. true --> true.", programWith(pred("once", 2, "once(X0,X1) :- once(X0,X1)"), pred("true", 2, "true(X0,X1) :- true(X0,X1)")))
}

func TestBuildDynamic(t *testing.T) {
	one := programWith(dynamicPred("p", 1))
	for _, src := range []string{":- dynamic p/1.", ":- dynamic(p/1).", ":- dynamic [p/1].", ":- dynamic p/1, p/1.", ":- dynamic [p/1,p/1]. :- dynamic p/1.", ":- dynamic [[p/1]].", ":- dynamic [[],p/1,[]].", ":- dynamic [(p/1,[])]."} {
		wantBuilt(t, src, one)
	}
	three := programWith(dynamicPred("p", 1), dynamicPred("q", 0), dynamicPred("p", impl.MaxArity))
	for _, src := range []string{":- dynamic p/1, q/0, p/20.", ":- dynamic(((p/1, q/0), p/20)).", ":- dynamic [p/1, q/0, p/20].", ":- dynamic [p/1, (q/0, p/20)].", ":- dynamic p/1, [q/0], [p/20].", ":- dynamic [[p/1, q/0], [p/20]].", ":- dynamic p/1. :- dynamic q/0, p/1. :- dynamic p/20, q/0."} {
		wantBuilt(t, src, three)
	}
	wantBuilt(t, ":- dynamic [].", impl.Program{})
	wantBuilt(t, ":- dynamic [], [[]].", impl.Program{})
	wantBuilt(t, ":- dynamic ''/0, 'B c'/2, '.'/2, call/9, (dynamic)/1.", programWith(dynamicPred("", 0), dynamicPred("B c", 2), dynamicPred(".", 2), dynamicPred("call", 9), dynamicPred("dynamic", 1)))
}

func TestBuildDynamicAmongClauses(t *testing.T) {
	wantBuilt(t, "p(a). q. :- dynamic r/0, p/1. p(b). r.", programWith(dynamicPred("p", 1, "p(a) :- true", "p(b) :- true"), pred("q", 0, "q :- true"), dynamicPred("r", 0, "r :- true")))
	wantBuilt(t, ":- dynamic q/0. p. q. p(1).", programWith(dynamicPred("q", 0, "q :- true"), pred("p", 0, "p :- true"), pred("p", 1, "p(1) :- true")))
}

func TestBuildBadDynamic(t *testing.T) {
	for _, s := range []string{
		"X", "p", "1", "{}", "p/X", "X/1", "1/1", "p/q", "f(a)/1", "p/(-1)", "p/21", "p/1000000000000000", "(p)/(1+1)", "'/'(p)", "'/'(p,1,2)", "p-1", "(p/1;q/1)", "(p/1->q/1)", "{p/1}", "p/1/1",
		"call/1", "call/8", "(is)/2", "nl/0", "(:-)/1", "(:-)/2", "(-->)/2", "','/2", "!/0", "once/1", "'|'/0", "'|'/20", "[]/3", "{}/0", "'$a'/1", "'$'/0", "phrase/2", "'[]'/0",
	} {
		for _, place := range []string{"@", "p/1, @", "@, p/1", "[@]", "[p/1, @]", "[@, p/1]", "[p/1|@]", "q/0, [p/1, @]"} {
			src := "a. :- dynamic((" + strings.ReplaceAll(place, "@", "("+s+")") + ")). b."
			wantNotBuilt(t, src, clausesIn(src), impl.CodeFail, 1)
		}
	}
	for _, src := range []string{":- dynamic([p/1|q/1]).", ":- dynamic([p/1|X])."} {
		wantNotBuilt(t, src, clausesIn(src), impl.CodeFail, 0)
	}
}

func TestBuildGoals(t *testing.T) {
	wantBuilt(t, ":- a.", impl.Program{Goals: goalTerms("a")})
	wantBuilt(t, ":- X.", impl.Program{Goals: goalTerms("call(X0)")})
	wantBuilt(t, ":- f(X, Y), Y.", impl.Program{Goals: goalTerms("f(X0,X1), call(X1)")})
	wantBuilt(t, ":- initialization(a). :- initialization((X, once(b))). :- initialization(Y).", impl.Program{Goals: goalTerms("a", "call(X0), (b -> true)", "call(X0)")})
	wantBuilt(t, ":- initialization(initialization(a)).", impl.Program{Goals: goalTerms("initialization(a)")})
	wantBuilt(t, ":- initialization(dynamic(a)). :- initialization((dynamic p/1)).", impl.Program{Goals: goalTerms("dynamic(a)", "dynamic p/1")})
	wantBuilt(t, ":- initialization. :- initialization(a, b). :- dynamic. :- dynamic(a, b). :- call. :- op(a, b).", impl.Program{Goals: goalTerms("initialization", "initialization(a,b)", "dynamic", "dynamic(a,b)", "call", "op(a,b)")})
	wantBuilt(t, ":- (a :- b). :- (a --> b). :- (:- a). :- [a].", impl.Program{Goals: goalTerms("(a :- b)", "(a --> b)", "(:- a)", "[a]")})
	wantBuilt(t, ":- b. p. :- a. p(1). :- b.", impl.Program{Preds: []impl.Pred{pred("p", 0, "p :- true"), pred("p", 1, "p(1) :- true")}, Goals: goalTerms("b", "a", "b")})
	p, code, _ := impl.BuildProgram(clausesOf(parsed(":- op(700, xfx, X3)")))
	if code != impl.CodeOK {
		t.Errorf("op: %d", code)
	}
	wantProgram(t, "op", p, impl.Program{Goals: goalTerms("op(700,xfx,X0)")})
}

func TestBuildOrderOfPredicates(t *testing.T) {
	wantBuilt(t, "c. a(1). b --> x. c. a. :- dynamic d/0, a/1. c. b(1,2). d.", programWith(
		pred("c", 0, "c :- true", "c :- true", "c :- true"), dynamicPred("a", 1, "a(1) :- true"),
		pred("b", 2, "b(X0,X1) :- x(X0,X1)", "b(1,2) :- true"), pred("a", 0, "a :- true"), dynamicPred("d", 0, "d :- true")))
	// A predicate is named by its clauses alone, not by goals.
	wantBuilt(t, "a :- z, b. b.", programWith(pred("a", 0, "a :- z, b"), pred("b", 0, "b :- true")))
}

func TestBuildFaults(t *testing.T) {
	for _, fault := range []string{
		"X", "1", "-1", "X :- a", "1 :- a", "p :- 1", "p :- a, 1", "p :- '$a'", `p :- \+ (a ; '$cut'(X))`, "call(x)", "call(x) :- a", "(a, b)", "(a ; b) :- c", "(a -> b)", `\+ a`, "!", "! :- a", "once(a)", "forall(a, b)",
		"X = Y", "X = Y :- a", "true", "nl :- a", "[]", "{}", "{a}", "'|'(a)", "'$a'", "'$a'(X) :- b", "'[]'(a)", "(a :- b) :- c", "(:- a) :- c", "(a --> b) :- c", "halt", "throw(X) :- a",
		":- 1", ":- a, 1", ":- '$1'", ":- once('$1')", ":- initialization(1)", ":- initialization((a, '$a'))", ":- dynamic foo", ":- dynamic call/1", ":- dynamic [a]",
		"1 --> a", "X --> a", "[] --> a", "s --> 1", "s, x --> a", "s --> '$1'", "s --> {1}", "s --> {'$a'}", "s --> a, {b, '$a'(X)}", "call --> a", "call, [x] --> a", "findall(X) --> a", "'$s' --> a", "{} --> a", "(a, b), [c] --> 1",
	} {
		for _, before := range []string{"", "a. ", "a. :- a. b --> c. :- dynamic d/0. "} {
			src := before + fault + " . z. 1 ."
			wantNotBuilt(t, src, clausesIn(src), impl.CodeFail, strings.Count(before, "."))
		}
	}
	wide := wideGoal(impl.MaxArity - 1)
	for _, src := range []string{wide + " --> a.", "s --> " + wide + ".", "s --> a, " + wide + ", 1."} {
		wantNotBuilt(t, src, clausesIn("a. "+src+" 1 ."), impl.CodeLimit, 1)
	}
}

func TestBuildBadArguments(t *testing.T) {
	good := clausesIn("a. b. 1. c.")
	for i, bad := range badTerms() {
		for at := range good {
			clauses := clausesOf(good[0].Term, good[1].Term, good[2].Term, good[3].Term)
			clauses[at].Term = bad
			wantNotBuilt(t, fmt.Sprint("bad term ", i, " at ", at), clauses, impl.CodeBad, 0)
		}
	}
}

func TestBuildIgnoresNamesAndPlaces(t *testing.T) {
	for _, c := range []impl.Clause{
		{Term: parsed("p(X0)")}, {Term: parsed("p(X0)"), At: -5}, {Term: parsed("p(X0)"), At: 1 << 40, Names: [][]byte{[]byte("A"), nil, []byte("")}},
	} {
		p, code, at := impl.BuildProgram([]impl.Clause{c})
		if code != impl.CodeOK || at != 0 {
			t.Errorf("%d@%d", code, at)
		}
		wantProgram(t, "names", p, programWith(pred("p", 1, "p(X0) :- true")))
	}
}

func TestBuildMaxClauses(t *testing.T) {
	for _, src := range []string{"a", ":- a", ":- dynamic a/0", "a --> b"} {
		clauses := clausesOf(manyItems(impl.MaxClauses, parsed(src))...)
		if p, code, at := impl.BuildProgram(clauses); code != impl.CodeOK || at != 0 || !impl.ValidProgram(p) {
			t.Errorf("%s: %d@%d", src, code, at)
		}
		wantNotBuilt(t, src, clausesOf(manyItems(impl.MaxClauses+1, parsed(src))...), impl.CodeBad, 0)
	}
	wantNotBuilt(t, "a fault", clausesOf(manyItems(impl.MaxClauses, parsed("1"))...), impl.CodeFail, 0)
	wantNotBuilt(t, "many with a fault", clausesOf(manyItems(impl.MaxClauses+1, parsed("1"))...), impl.CodeBad, 0)
}

func indicators(from int, n int) string {
	return "[" + manyOf(n, ",", func(i int) string { return fmt.Sprintf("p%d/0", from+i) }) + "]"
}

func TestBuildMaxPreds(t *testing.T) {
	facts := func(n int) string { return manyOf(n, "", numbered("p%d. ")) }
	most := impl.MaxPreds
	for _, src := range []string{
		facts(most), facts(most) + facts(most-150), facts(most) + " :- a. :- dynamic p0/0.", ":- dynamic " + indicators(0, most) + ".",
		":- dynamic " + indicators(0, most) + ". " + facts(most) + ":- dynamic " + indicators(5, most-5) + ".", facts(most-1) + " g --> h. g --> i. g(1,2).",
	} {
		if p := built(t, src); len(p.Preds) != most || !impl.ValidProgram(p) {
			t.Errorf("%.60s..: %d predicates", src, len(p.Preds))
		}
	}
	for _, last := range []string{"q.", "q :- a.", "p0(1).", "q --> a.", ":- dynamic q/0.", ":- dynamic p0/0, q/0.", ":- dynamic p0/1.", "q. 1 ."} {
		wantNotBuilt(t, last, clausesIn(facts(most)+last), impl.CodeLimit, most)
	}
	src := "a. :- dynamic " + indicators(0, most) + "."
	wantNotBuilt(t, src, clausesIn(src), impl.CodeLimit, 1)
	for _, last := range []string{"q :- 1.", "call(q).", ":- dynamic call/1.", ":- dynamic q."} {
		wantNotBuilt(t, last, clausesIn(facts(most)+last), impl.CodeFail, most)
	}
}

// wantClauseCells asks for so many cells in what BuildProgram makes of a term.
func wantClauseCells(t *testing.T, what string, x []impl.Cell, cells int) {
	t.Helper()
	p, code, at := impl.BuildProgram(clausesOf(parsed("a"), x))
	if code != impl.CodeOK || at != 0 || !impl.ValidProgram(p) {
		t.Errorf("%s: %d@%d", what, code, at)
		return
	}
	var last []impl.Cell
	if len(p.Goals) > 0 {
		last = p.Goals[0]
	} else {
		last = p.Preds[len(p.Preds)-1].Clauses[0]
	}
	if len(last) != cells {
		t.Errorf("%s: %d cells", what, len(last))
	}
}

func TestBuildMaxCells(t *testing.T) {
	x, b := varTerm(0), atomTerm("b")
	for what, from := range map[string]func(n int) []impl.Cell{
		"a fact":           func(n int) []impl.Cell { return chain(n - 2) },
		"a variable":       func(n int) []impl.Cell { return compTerm(":-", chain(n-3), x) },
		"once":             func(n int) []impl.Cell { return compTerm(":-", b, compTerm("once", chain(n-4))) },
		"a grammar":        func(n int) []impl.Cell { return compTerm("-->", b, chain(n-6)) },
		"a grammar's goal": func(n int) []impl.Cell { return compTerm("-->", b, compTerm("{}", compTerm(",", x, chain(n-11)))) },
		"a goal":           func(n int) []impl.Cell { return compTerm(":-", compTerm(",", x, compTerm(",", x, chain(n-6)))) },
		"initialization": func(n int) []impl.Cell {
			return compTerm(":-", compTerm("initialization", compTerm(",", x, compTerm(",", x, compTerm(",", x, chain(n-9))))))
		},
	} {
		wantClauseCells(t, what, from(impl.MaxCells), impl.MaxCells)
		wantNotBuilt(t, what, clausesOf(parsed("a"), from(impl.MaxCells+1)), impl.CodeLimit, 1)
	}
	for what, from := range map[string]func(n int) []impl.Cell{
		"a rule": func(n int) []impl.Cell { return compTerm(":-", b, chain(n-2)) },
		"a head": func(n int) []impl.Cell { return compTerm(":-", chain(n-2), b) },
	} {
		wantClauseCells(t, what, from(impl.MaxCells), impl.MaxCells)
		wantNotBuilt(t, what, clausesOf(parsed("a"), from(impl.MaxCells+1)), impl.CodeBad, 0)
	}
	wantNotBuilt(t, "a reserved head", clausesOf(compTerm(":-", atomTerm("nl"), compTerm("once", chain(impl.MaxCells-3)))), impl.CodeFail, 0)
	wantNotBuilt(t, "a head, the same, that is not reserved", clausesOf(compTerm(":-", b, compTerm("once", chain(impl.MaxCells-3)))), impl.CodeLimit, 0)
	wantNotBuilt(t, "a number in a long body", clausesOf(compTerm(":-", b, compTerm(",", compTerm("once", chain(impl.MaxCells-5)), intTerm(1)))), impl.CodeFail, 0)
}
