package tests

import (
	"fmt"
	"strings"
	"testing"

	"loop.example/s00095/impl"
)

// programOf puts clauses into predicates by their heads.
func programOf(clauses ...string) impl.Program {
	var p impl.Program
	for _, src := range clauses {
		x := parsed(src)
		name, arity := x[1].Text, 0
		if x[1].Kind == impl.TermComp {
			arity = x[1].N
		}
		last := len(p.Preds) - 1
		if last < 0 || string(p.Preds[last].Name) != string(name) || p.Preds[last].Arity != arity {
			p.Preds = append(p.Preds, impl.Pred{Name: name, Arity: arity})
			last++
		}
		p.Preds[last].Clauses = append(p.Preds[last].Clauses, x)
	}
	return p
}

// wantLowered asks for the clauses of a program, predicate by predicate.
func wantLowered(t *testing.T, src string, clauses ...string) {
	t.Helper()
	low, code := impl.LowerProgram(built(t, src))
	if code != impl.CodeOK {
		t.Errorf("%.200s: %d", src, code)
		return
	}
	wantProgram(t, src, low, programOf(clauses...))
}

func wantNotLowered(t *testing.T, what string, p impl.Program, want int) {
	t.Helper()
	if low, code := impl.LowerProgram(p); code != want || !isZeroProgram(low) {
		t.Errorf("%.200s: %d, %d predicates, want %d", what, code, len(low.Preds), want)
	}
}

func TestLowerFlatBodies(t *testing.T) {
	wantLowered(t, "p.", "p :- true")
	wantLowered(t, "p :- true, true.", "p :- true")
	wantLowered(t, "p :- (true, true), (true, true).", "p :- true")
	wantLowered(t, "p :- true, a, true.", "p :- a")
	wantLowered(t, "p :- a, b, c.", "p :- a, b, c")
	wantLowered(t, "p :- ((a, b), c), (d, e).", "p :- a, b, c, d, e")
	wantLowered(t, "p :- (a, true), (true, b), true, c.", "p :- a, b, c")
	wantLowered(t, "p(X, f(Y)) :- q(Y, Z), X, r(Z).", "p(X0,f(X1)) :- q(X1,X2), call(X0), r(X2)")
	wantLowered(t, "p :- call((a, ! ; b)), findall(X, (b ; c -> d), L), catch(\\+ a, X, (b ; !)).", "p :- call((a, ! ; b)), findall(X0, (b ; c -> d), X1), catch(\\+ a, X0, (b ; !))")
	wantLowered(t, "p :- ','(a), ';'(a, b, c), '->'(a), \\+(a, b), !(a), true(a), fail.", "p :- ','(a), ';'(a, b, c), '->'(a), \\+(a, b), !(a), true(a), fail")
}

func TestLowerCuts(t *testing.T) {
	wantLowered(t, "p :- !.", "p :- '$level'(X0), '$cut'(X0)")
	wantLowered(t, "p(X) :- q(X), !, r.", "p(X0) :- '$level'(X1), q(X0), '$cut'(X1), r")
	wantLowered(t, "p(X) :- !, q(X), !, !.", "p(X0) :- '$level'(X1), '$cut'(X1), q(X0), '$cut'(X1), '$cut'(X1)")
	wantLowered(t, "p(X) :- q(Y), (r, !), s(Z, X).", "p(X0) :- '$level'(X1), q(X2), r, '$cut'(X1), s(X3,X0)")
	wantLowered(t, "p :- true, !, true.", "p :- '$level'(X0), '$cut'(X0)")
}

func TestLowerOr(t *testing.T) {
	wantLowered(t, "p :- (a ; b).", "p :- '$1'", "'$1' :- a", "'$1' :- b")
	wantLowered(t, "p :- x, (a, b ; true), y.", "p :- x, '$1', y", "'$1' :- a, b", "'$1' :- true")
	wantLowered(t, "p(X, Y, Z) :- (q(Z, X) ; r(Y, Z)).", "p(X0,X1,X2) :- '$1'(X2,X0,X1)", "'$1'(X0,X1,X2) :- q(X0,X1)", "'$1'(X0,X1,X2) :- r(X2,X0)")
	wantLowered(t, "p(X) :- (q(f(Y, Y)) ; X), r(Y).", "p(X0) :- '$1'(X1,X0), r(X1)", "'$1'(X0,X1) :- q(f(X0,X0))", "'$1'(X0,X1) :- call(X1)")
	wantLowered(t, "p(X) :- (a ; !), b.", "p(X0) :- '$level'(X1), '$1'(X1), b", "'$1'(X0) :- a", "'$1'(X0) :- '$cut'(X0)")
	wantLowered(t, "p(X) :- (! ; q(X)).", "p(X0) :- '$level'(X1), '$1'(X0,X1)", "'$1'(X0,X1) :- '$cut'(X1)", "'$1'(X0,X1) :- q(X0)")
	wantLowered(t, "p :- (a, !, b ; c, !).", "p :- '$level'(X0), '$1'(X0)", "'$1'(X0) :- a, '$cut'(X0), b", "'$1'(X0) :- c, '$cut'(X0)")
	wantLowered(t, "p :- (a ; b), !.", "p :- '$level'(X0), '$1', '$cut'(X0)", "'$1' :- a", "'$1' :- b")
	wantLowered(t, "p :- !, (a ; b).", "p :- '$level'(X0), '$cut'(X0), '$1'", "'$1' :- a", "'$1' :- b")
}

func TestLowerThen(t *testing.T) {
	wantLowered(t, "p :- (a -> b).", "p :- '$1'", "'$1' :- '$level'(X0), a, '$cut'(X0), b")
	wantLowered(t, "p(X, Y) :- (q(Y) -> r(X, Y)), s.", "p(X0,X1) :- '$1'(X1,X0), s", "'$1'(X0,X1) :- '$level'(X2), q(X0), '$cut'(X2), r(X1,X0)")
	wantLowered(t, "p :- (true -> true).", "p :- '$1'", "'$1' :- '$level'(X0), '$cut'(X0)")
	wantLowered(t, "p :- (a, ! -> b).", "p :- '$1'", "'$1' :- '$level'(X0), '$mark'(X1), a, '$cut'(X1), '$cut'(X0), b")
	wantLowered(t, "p(X) :- (! -> q(X)).", "p(X0) :- '$1'(X0)", "'$1'(X0) :- '$level'(X1), '$mark'(X2), '$cut'(X2), '$cut'(X1), q(X0)")
	wantLowered(t, "p(X) :- (q(X) -> !).", "p(X0) :- '$level'(X1), '$1'(X0,X1)", "'$1'(X0,X1) :- '$level'(X2), q(X0), '$cut'(X2), '$cut'(X1)")
	wantLowered(t, "p :- (! -> !), a.", "p :- '$level'(X0), '$1'(X0), a", "'$1'(X0) :- '$level'(X1), '$mark'(X2), '$cut'(X2), '$cut'(X1), '$cut'(X0)")
	wantLowered(t, "p :- once(a).", "p :- '$1'", "'$1' :- '$level'(X0), a, '$cut'(X0)")
	wantLowered(t, "p :- once(!).", "p :- '$1'", "'$1' :- '$level'(X0), '$mark'(X1), '$cut'(X1), '$cut'(X0)")
	wantLowered(t, "p :- (a -> b -> c).", "p :- '$1'", "'$1' :- '$level'(X0), a, '$cut'(X0), '$2'", "'$2' :- '$level'(X0), b, '$cut'(X0), c")
	wantLowered(t, "p :- ((a -> b) -> c).", "p :- '$1'", "'$1' :- '$level'(X0), '$2', '$cut'(X0), c", "'$2' :- '$level'(X0), a, '$cut'(X0), b")
}

func TestLowerThenElse(t *testing.T) {
	wantLowered(t, "p(X) :- (q -> r(X) ; s).", "p(X0) :- '$1'(X0)", "'$1'(X0) :- '$level'(X1), q, '$cut'(X1), r(X0)", "'$1'(X0) :- s")
	wantLowered(t, "p(X, Y) :- (q(Y) -> r ; s(X)).", "p(X0,X1) :- '$1'(X1,X0)", "'$1'(X0,X1) :- '$level'(X2), q(X0), '$cut'(X2), r", "'$1'(X0,X1) :- s(X1)")
	wantLowered(t, "p :- (a, ! -> b ; c).", "p :- '$1'", "'$1' :- '$level'(X0), '$mark'(X1), a, '$cut'(X1), '$cut'(X0), b", "'$1' :- c")
	wantLowered(t, "p :- (a -> ! ; c).", "p :- '$level'(X0), '$1'(X0)", "'$1'(X0) :- '$level'(X1), a, '$cut'(X1), '$cut'(X0)", "'$1'(X0) :- c")
	wantLowered(t, "p :- (a -> b ; !).", "p :- '$level'(X0), '$1'(X0)", "'$1'(X0) :- '$level'(X1), a, '$cut'(X1), b", "'$1'(X0) :- '$cut'(X0)")
	wantLowered(t, "p(X) :- (q(X), ! -> !, a ; !, b(X)).", "p(X0) :- '$level'(X1), '$1'(X0,X1)",
		"'$1'(X0,X1) :- '$level'(X2), '$mark'(X3), q(X0), '$cut'(X3), '$cut'(X2), '$cut'(X1), a", "'$1'(X0,X1) :- '$cut'(X1), b(X0)")
	wantLowered(t, "p :- (a -> b ; c -> d ; e).", "p :- '$1'", "'$1' :- '$level'(X0), a, '$cut'(X0), b", "'$1' :- '$2'", "'$2' :- '$level'(X0), c, '$cut'(X0), d", "'$2' :- e")
	wantLowered(t, "p :- (a ; b -> c).", "p :- '$1'", "'$1' :- a", "'$1' :- '$2'", "'$2' :- '$level'(X0), b, '$cut'(X0), c")
	wantLowered(t, "p :- ((a -> b), true ; c).", "p :- '$1'", "'$1' :- '$2'", "'$1' :- c", "'$2' :- '$level'(X0), a, '$cut'(X0), b")
	wantLowered(t, "p :- (once(a) ; b).", "p :- '$1'", "'$1' :- '$level'(X0), a, '$cut'(X0)", "'$1' :- b")
}

func TestLowerNot(t *testing.T) {
	wantLowered(t, "p :- \\+ a.", "p :- '$1'", "'$1' :- '$level'(X0), a, '$cut'(X0), fail", "'$1' :- true")
	wantLowered(t, "p(X, Y) :- \\+ q(Y, Z), r(Z).", "p(X0,X1) :- '$1'(X1,X2), r(X2)", "'$1'(X0,X1) :- '$level'(X2), q(X0,X1), '$cut'(X2), fail", "'$1'(X0,X1) :- true")
	wantLowered(t, "p :- \\+ !.", "p :- '$1'", "'$1' :- '$level'(X0), '$mark'(X1), '$cut'(X1), '$cut'(X0), fail", "'$1' :- true")
	wantLowered(t, "p :- \\+ true.", "p :- '$1'", "'$1' :- '$level'(X0), '$cut'(X0), fail", "'$1' :- true")
	wantLowered(t, "p(X) :- !, \\+ (q(X), !).", "p(X0) :- '$level'(X1), '$cut'(X1), '$1'(X0)",
		"'$1'(X0) :- '$level'(X1), '$mark'(X2), q(X0), '$cut'(X2), '$cut'(X1), fail", "'$1'(X0) :- true")
	wantLowered(t, "p :- \\+ \\+ a.", "p :- '$1'", "'$1' :- '$level'(X0), '$2', '$cut'(X0), fail", "'$1' :- true", "'$2' :- '$level'(X0), a, '$cut'(X0), fail", "'$2' :- true")
	wantLowered(t, "p :- forall(q(X), r(X)).", "p :- '$1'(X0)", "'$1'(X0) :- '$level'(X1), q(X0), '$2'(X0), '$cut'(X1), fail", "'$1'(X0) :- true",
		"'$2'(X0) :- '$level'(X1), r(X0), '$cut'(X1), fail", "'$2'(X0) :- true")
	wantLowered(t, "p :- (\\+ a ; b).", "p :- '$1'", "'$1' :- '$2'", "'$1' :- b", "'$2' :- '$level'(X0), a, '$cut'(X0), fail", "'$2' :- true")
}

func TestLowerCutVariableWithin(t *testing.T) {
	wantLowered(t, "p(X) :- (a -> (b(X) ; !) ; c(X)).", "p(X0) :- '$level'(X1), '$1'(X0,X1)",
		"'$1'(X0,X1) :- '$level'(X2), a, '$cut'(X2), '$2'(X0,X1)", "'$1'(X0,X1) :- c(X0)", "'$2'(X0,X1) :- b(X0)", "'$2'(X0,X1) :- '$cut'(X1)")
	wantLowered(t, "p :- ((a ; !) -> b).", "p :- '$1'", "'$1' :- '$level'(X0), '$mark'(X1), '$2'(X1), '$cut'(X0), b", "'$2'(X0) :- a", "'$2'(X0) :- '$cut'(X0)")
	wantLowered(t, "p :- ((a -> !) -> !).", "p :- '$level'(X0), '$1'(X0)",
		"'$1'(X0) :- '$level'(X1), '$mark'(X2), '$2'(X2), '$cut'(X1), '$cut'(X0)", "'$2'(X0) :- '$level'(X1), a, '$cut'(X1), '$cut'(X0)")
	wantLowered(t, "p :- ((! -> a) -> b).", "p :- '$1'", "'$1' :- '$level'(X0), '$2', '$cut'(X0), b", "'$2' :- '$level'(X0), '$mark'(X1), '$cut'(X1), '$cut'(X0), a")
	wantLowered(t, "p :- \\+ (a ; !).", "p :- '$1'", "'$1' :- '$level'(X0), '$mark'(X1), '$2'(X1), '$cut'(X0), fail", "'$1' :- true", "'$2'(X0) :- a", "'$2'(X0) :- '$cut'(X0)")
	wantLowered(t, "p :- (\\+ ! ; a).", "p :- '$1'", "'$1' :- '$2'", "'$1' :- a", "'$2' :- '$level'(X0), '$mark'(X1), '$cut'(X1), '$cut'(X0), fail", "'$2' :- true")
	wantLowered(t, "p(X) :- ((q(X) ; !) ; r(Y)), s(Y).", "p(X0) :- '$level'(X1), '$1'(X0,X2,X1), s(X2)",
		"'$1'(X0,X1,X2) :- '$2'(X0,X2)", "'$1'(X0,X1,X2) :- r(X1)", "'$2'(X0,X1) :- q(X0)", "'$2'(X0,X1) :- '$cut'(X1)")
	wantLowered(t, "p(X) :- (! ; (q(X) ; a)).", "p(X0) :- '$level'(X1), '$1'(X0,X1)", "'$1'(X0,X1) :- '$cut'(X1)", "'$1'(X0,X1) :- '$2'(X0)", "'$2'(X0) :- q(X0)", "'$2'(X0) :- a")
	wantLowered(t, "p :- ((a, ! -> b ; c) -> (d ; !)).", "p :- '$level'(X0), '$1'(X0)",
		"'$1'(X0) :- '$level'(X1), '$2', '$cut'(X1), '$3'(X0)", "'$2' :- '$level'(X0), '$mark'(X1), a, '$cut'(X1), '$cut'(X0), b", "'$2' :- c", "'$3'(X0) :- d", "'$3'(X0) :- '$cut'(X0)")
}

func TestLowerNumbersInOrder(t *testing.T) {
	wantLowered(t, "p :- (a ; b), \\+ c, (d -> e).", "p :- '$1', '$2', '$3'", "'$1' :- a", "'$1' :- b",
		"'$2' :- '$level'(X0), c, '$cut'(X0), fail", "'$2' :- true", "'$3' :- '$level'(X0), d, '$cut'(X0), e")
	wantLowered(t, "p :- ((a ; b) ; (c ; d)), (e ; f).", "p :- '$1', '$4'", "'$1' :- '$2'", "'$1' :- '$3'", "'$2' :- a", "'$2' :- b", "'$3' :- c", "'$3' :- d", "'$4' :- e", "'$4' :- f")
	wantLowered(t, "p :- ((a ; b) -> (c ; d) ; (e ; f)).", "p :- '$1'", "'$1' :- '$level'(X0), '$2', '$cut'(X0), '$3'", "'$1' :- '$4'",
		"'$2' :- a", "'$2' :- b", "'$3' :- c", "'$3' :- d", "'$4' :- e", "'$4' :- f")
	wantLowered(t, "q :- (a ; b). p(X) :- \\+ X. q :- (c ; d). p(Y) :- (Y ; e).", "q :- '$1'", "q :- '$2'", "p(X0) :- '$3'(X0)", "p(X0) :- '$4'(X0)",
		"'$1' :- a", "'$1' :- b", "'$2' :- c", "'$2' :- d", "'$3'(X0) :- '$level'(X1), call(X0), '$cut'(X1), fail", "'$3'(X0) :- true", "'$4'(X0) :- call(X0)", "'$4'(X0) :- e")
	many := manyOf(12, ", ", func(i int) string { return fmt.Sprintf("(a%d ; b)", i) })
	low, code := impl.LowerProgram(built(t, "p :- "+many+"."))
	for i, q := range low.Preds {
		if i > 0 && string(q.Name) != fmt.Sprintf("$%d", i) {
			t.Errorf("predicate %d is %s", i, q.Name)
		}
	}
	if code != impl.CodeOK || len(low.Preds) != 13 {
		t.Errorf("%d, %d predicates", code, len(low.Preds))
	}
}

func TestLowerSameConstructTwice(t *testing.T) {
	wantLowered(t, "p(X) :- (X ; a), (X ; a).", "p(X0) :- '$1'(X0), '$2'(X0)", "'$1'(X0) :- call(X0)", "'$1'(X0) :- a", "'$2'(X0) :- call(X0)", "'$2'(X0) :- a")
}

func TestLowerKeepsTheRest(t *testing.T) {
	p := built(t, ":- dynamic d/1, e/0. p(X) :- (a ; X). d(X) :- !, \\+ X. :- (g ; !), \\+ h(X, Y). :- dynamic r/0.")
	p.Preds = append(p.Preds, pred("none", 3))
	p.Goals = append(p.Goals, parsed("f(X9,X4)"))
	low, code := impl.LowerProgram(p)
	if code != impl.CodeOK {
		t.Fatal(code)
	}
	wantProgram(t, "dynamic and empty predicates, goals", low, impl.Program{
		Preds: []impl.Pred{
			dynamicPred("d", 1, "d(X0) :- '$level'(X1), '$cut'(X1), '$1'(X0)"), dynamicPred("e", 0), pred("p", 1, "p(X0) :- '$2'(X0)"), dynamicPred("r", 0), pred("none", 3),
			pred("$1", 1, "'$1'(X0) :- '$level'(X1), call(X0), '$cut'(X1), fail", "'$1'(X0) :- true"), pred("$2", 1, "'$2'(X0) :- a", "'$2'(X0) :- call(X0)"),
		},
		Goals: goalTerms("(g ; !), \\+ h(X0,X1)", "f(X9,X4)"),
	})
}

func TestLowerNothing(t *testing.T) {
	low, code := impl.LowerProgram(impl.Program{})
	if code != impl.CodeOK || !isZeroProgram(low) {
		t.Errorf("%d", code)
	}
}

func TestLowerMaxArity(t *testing.T) {
	for _, c := range []struct {
		body string
		more int // arguments beside the variables of the goals
	}{
		{"(@ ; r)", 0}, {"(r ; @)", 0}, {"(@ -> r)", 0}, {"(r -> @)", 0}, {"(r -> r ; @)", 0}, {`\+ (@)`, 0}, {`\+ (@, !)`, 0}, {"(@, ! -> r)", 0}, {"(@, ! ; r)", 1}, {"(@ ; !)", 1}, {"(@ -> !)", 1}, {"(r -> ! ; @)", 1}, {"(a ; (@ ; b))", 0}, {"(a ; ! ; @)", 1},
		{"(@, q(X0, X5))", -1000}, {"(@, !)", -1000},
	} {
		for n := impl.MaxArity - 2; n <= impl.MaxArity+2; n++ {
			goals := manyOf(n, ",", numbered("q(X%d)"))
			p := built(t, "p :- a, "+strings.ReplaceAll(c.body, "@", goals)+".")
			low, code := impl.LowerProgram(p)
			if want := n+c.more > impl.MaxArity; want != (code == impl.CodeLimit) || !want && code != impl.CodeOK || want != isZeroProgram(low) {
				t.Errorf("%s with %d variables: %d", c.body, n, code)
			}
		}
	}
}

func oneRule(body []impl.Cell) impl.Program {
	return programWith(impl.Pred{Name: []byte("p"), Clauses: [][]impl.Cell{compTerm(":-", atomTerm("p"), body)}})
}

func greatestClause(p impl.Program) int {
	greatest := 0
	for _, q := range p.Preds {
		for _, clause := range q.Clauses {
			greatest = max(greatest, len(clause))
		}
	}
	return greatest
}

func TestLowerMaxCells(t *testing.T) {
	for body, beside := range map[string]int{
		"!, @": 8, "@, !": 8, "!, @, !": 11, "(!, !, @ ; b)": 9, "(b ; !, !, @)": 9, "(@ -> b)": 10, "(b -> @)": 10, "(!, @ -> b)": 16, "(@, ! -> !)": 18, "(b -> !, @ ; c)": 14, "(@ -> b ; c)": 10, `\+ @`: 10, `\+ (@, !)`: 16, `a, \+ @`: 10, `(a ; \+ @)`: 10,
	} {
		with := func(cells int) impl.Program {
			var goal []impl.Cell
			for _, c := range parsed(strings.ReplaceAll(body, "@", "here")) {
				if string(c.Text) == "here" {
					goal = append(goal, chain(cells)...)
				} else {
					goal = append(goal, c)
				}
			}
			return oneRule(goal)
		}
		low, code := impl.LowerProgram(with(impl.MaxCells - beside))
		if code != impl.CodeOK || greatestClause(low) != impl.MaxCells {
			t.Errorf("%s: %d, %d cells", body, code, greatestClause(low))
		}
		wantNotLowered(t, body, with(impl.MaxCells-beside+1), impl.CodeLimit)
	}
	for _, body := range [][]impl.Cell{chain(impl.MaxCells - 2), compTerm(";", atomTerm("b"), chain(impl.MaxCells-4)), compTerm(",", atomTerm("true"), chain(impl.MaxCells-4))} {
		if low, code := impl.LowerProgram(oneRule(body)); code != impl.CodeOK || greatestClause(low) > impl.MaxCells {
			t.Errorf("%.60s: %d", showCells(body), code)
		}
	}
}

func TestLowerMaxPreds(t *testing.T) {
	for _, c := range []struct {
		others     int
		constructs int
		want       int
	}{
		{0, impl.MaxPreds - 1, impl.CodeOK}, {0, impl.MaxPreds, impl.CodeLimit}, {0, impl.MaxPreds + 1, impl.CodeLimit}, {200, 99, impl.CodeOK}, {200, 100, impl.CodeLimit}, {impl.MaxPreds - 1, 0, impl.CodeOK}, {impl.MaxPreds - 1, 1, impl.CodeLimit}, {impl.MaxPreds - 2, 1, impl.CodeOK},
	} {
		// A condition alone has one clause, so that there are more predicates than clauses can be.
		body := atomTerm("b")
		for range c.constructs {
			body = compTerm("->", atomTerm("a"), body)
		}
		p := oneRule(body)
		for i := range c.others {
			p.Preds = append(p.Preds, dynamicPred(fmt.Sprintf("q%d", i), 0))
		}
		low, code := impl.LowerProgram(p)
		if code != c.want || code == impl.CodeOK && len(low.Preds) != 1+c.others+c.constructs || code != impl.CodeOK && !isZeroProgram(low) {
			t.Errorf("%d predicates, %d constructs: %d, %d predicates", c.others, c.constructs, code, len(low.Preds))
		}
	}
}

func TestLowerMaxClauses(t *testing.T) {
	for _, c := range []struct {
		facts      int
		constructs int
		goals      int
		want       int
	}{
		{299, 100, 0, impl.CodeOK}, {300, 100, 0, impl.CodeLimit}, {497, 1, 0, impl.CodeOK}, {498, 1, 0, impl.CodeLimit}, {499, 0, 0, impl.CodeOK}, {1, 249, 0, impl.CodeOK}, {2, 249, 0, impl.CodeLimit},
		{299, 100, 200, impl.CodeOK}, {0, 249, 499, impl.CodeOK}, {497, 1, 2, impl.CodeOK}, {498, 1, 1, impl.CodeLimit},
	} {
		body := atomTerm("b")
		for range c.constructs {
			body = compTerm(",", compTerm(";", atomTerm("a"), atomTerm("a")), body)
		}
		p := oneRule(body)
		p.Preds = append(p.Preds, impl.Pred{Name: []byte("q"), Clauses: manyItems(c.facts, parsed("q :- true"))})
		p.Goals = manyItems(c.goals, atomTerm("g"))
		if !impl.ValidProgram(p) {
			t.Fatalf("%d facts, %d goals", c.facts, c.goals)
		}
		low, code := impl.LowerProgram(p)
		clauses := 0
		for _, q := range low.Preds {
			clauses += len(q.Clauses)
		}
		if code != c.want || code == impl.CodeOK && clauses != 1+c.facts+2*c.constructs || code != impl.CodeOK && !isZeroProgram(low) {
			t.Errorf("%d facts, %d constructs, %d goals: %d, %d clauses", c.facts, c.constructs, c.goals, code, clauses)
		}
	}
}

// Programs far beyond the limits are answered as soon as others.
func TestLowerFarBeyond(t *testing.T) {
	deep := within(atomTerm("a"), `\+`, impl.MaxCells-3)
	wide := parsed("f(X0,X1,X2)")
	for len(wide)+3 < impl.MaxCells {
		wide = compTerm(";", wide, atomTerm("!"))
	}
	for _, body := range [][]impl.Cell{deep, wide} {
		clause := compTerm(":-", atomTerm("p"), body)
		p := programWith(impl.Pred{Name: []byte("p"), Clauses: manyItems(impl.MaxClauses, clause)})
		wantNotLowered(t, showCells(body), p, impl.CodeLimit)
	}
}
