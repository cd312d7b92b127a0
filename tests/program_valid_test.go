package tests

import (
	"strings"
	"testing"

	"loop.example/s00095/impl"
)

// soundProgram has something of all that a program may have.
func soundProgram() impl.Program {
	return impl.Program{
		Preds: []impl.Pred{
			pred("p", 1, "p(a) :- true", "p(X0) :- q(X0,X1), (X1 = b, ! ; call(X1))"), dynamicPred("q", 2, "q(X0,X1) :- true"),
			dynamicPred("r", 0), pred("s", 0), pred("p", 0, `p :- \+ (a -> b)`), pred("", 20), pred(".", 2, "[X0|X0] :- [a]"),
		},
		Goals: goalTerms("a", "f(X7,X3)", "call(X5), \\+ !"),
	}
}

func wantValid(t *testing.T, what string, p impl.Program, want bool) {
	t.Helper()
	if got := impl.ValidProgram(p); got != want {
		t.Errorf("%s: %v\n%.500s", what, got, showProgram(p))
	}
	if want {
		return
	}
	if text := impl.ShowProgram(impl.DefaultOps(), p); len(text) != 0 {
		t.Errorf("%s: shown as %.100q", what, text)
	}
	if low, code := impl.LowerProgram(p); code != impl.CodeBad || !isZeroProgram(low) {
		t.Errorf("%s: lowered, %d", what, code)
	}
}

func TestValidPrograms(t *testing.T) {
	wantValid(t, "none", impl.Program{}, true)
	wantValid(t, "all", soundProgram(), true)
	wantValid(t, "empty lists", impl.Program{Preds: []impl.Pred{{Name: []byte{}, Clauses: [][]impl.Cell{}}}, Goals: [][]impl.Cell{}}, true)
}

func TestValidCountOfPreds(t *testing.T) {
	for n, want := range map[int]bool{impl.MaxPreds: true, impl.MaxPreds + 1: false, 5000: false} {
		var p impl.Program
		for i := range n {
			p.Preds = append(p.Preds, pred("p"+strings.Repeat("x", i/21), i%21))
		}
		if n < 1000 {
			wantValid(t, "so many predicates", p, want)
		} else if impl.ValidProgram(p) {
			t.Errorf("%d predicates", n)
		}
	}
}

func TestValidCountOfClauses(t *testing.T) {
	for _, c := range []struct {
		first  int
		second int
		goals  int
		want   bool
	}{
		{impl.MaxClauses, 0, 0, true}, {0, 0, impl.MaxClauses, true}, {200, 200, 100, true}, {impl.MaxClauses - 1, 0, 1, true}, {0, impl.MaxClauses - 1, 1, true},
		{impl.MaxClauses + 1, 0, 0, false}, {0, 0, impl.MaxClauses + 1, false}, {200, 200, 101, false}, {impl.MaxClauses, 0, 1, false}, {1, impl.MaxClauses, 0, false}, {250, 251, 0, false},
	} {
		p := programWith(pred("p", 0), pred("q", 0))
		p.Preds[0].Clauses = manyItems(c.first, parsed("p :- true"))
		p.Preds[1].Clauses = manyItems(c.second, parsed("q :- true"))
		p.Goals = manyItems(c.goals, atomTerm("g"))
		wantValid(t, "so many clauses", p, c.want)
	}
}

func TestValidNames(t *testing.T) {
	longest := strings.Repeat("n", impl.MaxAtom)
	for _, q := range []impl.Pred{pred("a", 0), pred("a", impl.MaxArity), pred("", 3), pred(longest, 1), pred("\x00\xff", 1), pred("call", 0), pred("call", 9), pred("!", 1), pred("a$", 0), pred("dynamic", 1)} {
		wantValid(t, "a name", programWith(q), true)
		wantValid(t, "a name that is Dynamic", programWith(impl.Pred{Name: q.Name, Arity: q.Arity, Dynamic: true}), true)
	}
	for _, q := range []impl.Pred{
		pred("a", -1), pred("a", impl.MaxArity+1), pred("a", 1<<40), pred("a", -1<<40), pred(longest+"n", 1), pred(strings.Repeat("n", 100000), 1), pred("$"+longest, 1),
		pred("call", 1), pred("call", 8), pred("nl", 0), pred("=", 2), pred(",", 2), pred("!", 0), pred("|", 7), pred("[]", 0), pred("[]", 20), pred("{}", 1), pred("$a", 3), pred("$1", 0), pred(":-", 2), pred(":-", 1), pred("-->", 2), pred("halt", 0),
	} {
		wantValid(t, "a bad name", programWith(q), false)
		wantValid(t, "a bad name behind others", programWith(append(soundProgram().Preds, q)...), false)
	}
	for _, clause := range []string{"nl :- true", "call(a) :- true", "'$a' :- true", "[] :- true", "(a,b) :- true"} {
		head := parsed(clause)[1]
		arity := 0
		if head.Kind == impl.TermComp {
			arity = head.N
		}
		wantValid(t, clause, programWith(pred(string(head.Text), arity, clause)), false)
	}
}

func TestValidNamesOnce(t *testing.T) {
	a, b := pred("a", 1), pred("b", 1)
	wantValid(t, "other arities", programWith(a, pred("a", 0), pred("a", 2), b), true)
	for _, again := range []impl.Pred{a, dynamicPred("a", 1), pred("a", 1, "a(1) :- true")} {
		wantValid(t, "side by side", programWith(a, again), false)
		wantValid(t, "apart", programWith(a, b, pred("c", 0), again), false)
		wantValid(t, "at the end", programWith(b, again, a), false)
	}
}

func TestValidClauses(t *testing.T) {
	for _, clause := range []string{
		"p(a)", "p(a) :- X0", "p(X0) :- X1", "p(a) :- 1", "p(a) :- '$a'", "p(a) :- once(b)", "p(a) :- (b, once(c))", "p(a) :- forall(b,c)", "p(a) :- (b ; X0)", `p(a) :- \+ 1`, "p(a) :- (b -> '$cut'(c))",
		"p(X1) :- true", "p(X0,X1) :- true", "p :- true", "q(a) :- true", "p(X0) :- q(X2)", "p(X0) :- q(X0,X2,X1)", "X0 :- true", "1 :- true", "(:- p(a))", "p(a) --> true", "':-'(p(a),true,true)", "':-'(p(a))", "true", "X0", "7", "','(p(a),true)", "[p(a)]",
	} {
		wantValid(t, clause, programWith(pred("p", 1, clause)), false)
		wantValid(t, clause+" behind others", programWith(pred("a", 0), pred("p", 1, "p(b) :- true", clause, "p(c) :- true")), false)
	}
	for _, clause := range []string{
		"p(a) :- true", "p(X0) :- call(X0)", "p(X0) :- call(X1)", "p(a) :- (b,c;d->e)", `p(f(X0,X1)) :- \+ g(X1,X2,X0)`, "p(a) :- call(once(X0))", "p(a) :- (b :- c)", "p(a) :- f('$a')", "p(a) :- p(X0)", "p(1) :- !", "p('$a') :- []",
	} {
		wantValid(t, clause, programWith(pred("p", 1, clause)), true)
	}
	for _, clause := range []string{"X0 :- true", "1 :- true", "''(a) :- true", "a :- true", "[] :- true"} {
		wantValid(t, clause, programWith(pred("", 0, clause)), false)
	}
	for i, bad := range badTerms() {
		clauses := [][]impl.Cell{parsed("p(a) :- true"), bad}
		wantValid(t, showCells(bad), programWith(impl.Pred{Name: []byte("p"), Arity: 1, Clauses: clauses}), false)
		if i > 1 {
			wantValid(t, "a body "+showCells(bad), programWith(impl.Pred{Name: []byte("p"), Clauses: [][]impl.Cell{compTerm(":-", atomTerm("p"), bad)}}), false)
		}
	}
}

func TestValidGoals(t *testing.T) {
	for _, goal := range []string{"a", "X0 = X0", "f(X9,X0)", "call(X3)", "(call(X1), !)", "true", "[]", "(a :- X1)", "op(a,b,c)", "dynamic(X1)", `\+ a`} {
		wantValid(t, goal, impl.Program{Goals: goalTerms("b", goal)}, true)
	}
	for _, goal := range []string{"X0", "1", "'$a'", "'$a'(X1)", "once(a)", "forall(a,b)", "(a, X1)", "(a ; 1)", `\+ once(a)`, "(a -> X0)"} {
		wantValid(t, goal, impl.Program{Goals: goalTerms("b", goal)}, false)
		wantValid(t, goal+" in front", impl.Program{Preds: soundProgram().Preds, Goals: goalTerms(goal, "b")}, false)
	}
	for _, bad := range badTerms() {
		wantValid(t, showCells(bad), impl.Program{Goals: [][]impl.Cell{atomTerm("a"), bad}}, false)
	}
}

func TestValidAtMaxCells(t *testing.T) {
	clause := func(cells int) impl.Program {
		return programWith(impl.Pred{Name: []byte("f"), Arity: 1, Clauses: [][]impl.Cell{compTerm(":-", chain(cells-2), atomTerm("true"))}})
	}
	wantValid(t, "a clause", clause(impl.MaxCells), true)
	wantValid(t, "a clause beyond", clause(impl.MaxCells+1), false)
	wantValid(t, "a goal", impl.Program{Goals: [][]impl.Cell{chain(impl.MaxCells)}}, true)
	wantValid(t, "a goal beyond", impl.Program{Goals: [][]impl.Cell{chain(impl.MaxCells + 1)}}, false)
}
