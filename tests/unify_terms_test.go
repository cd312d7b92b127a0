package tests

import (
	"testing"

	"loop.example/s00095/impl"
)

// unified tells what two terms answer: bindings such as X1=a X2=b, or a word for the code.
type unified struct {
	a, b string
	want string
}

func wantUnified(t *testing.T, cases []unified) {
	t.Helper()
	codes := map[string]int{"fail": impl.CodeFail, "cyclic": impl.CodeCyclic, "limit": impl.CodeLimit}
	for _, c := range cases {
		sub, code := unifies(t, parsed(c.a), parsed(c.b))
		if want, isCode := codes[c.want]; isCode {
			if code != want {
				t.Errorf("%s, %s: %d, want %s", c.a, c.b, code, c.want)
			}
			continue
		}
		if code != impl.CodeOK {
			t.Errorf("%s, %s: %d, want %s", c.a, c.b, code, c.want)
		}
		wantSub(t, c.a+", "+c.b, sub, parsedSub(c.want))
	}
}

// eachKind are terms without variables, no two of which are the same.
func eachKind() [][]impl.Cell {
	return [][]impl.Cell{
		intTerm(0), intTerm(1), intTerm(-1), intTerm(impl.MaxInt), intTerm(-impl.MaxInt),
		atomTerm(""), atomTerm("a"), atomTerm("b"), atomTerm("aa"), atomTerm("0"), atomTerm("1"), atomTerm("f"), atomTerm("[]"),
		parsed("f(a)"), parsed("f(b)"), parsed("g(a)"), parsed("f(a,a)"), parsed("f(a,b)"), parsed("f(b,a)"), parsed("f(f(a))"),
		parsed("f(1)"), parsed("f(f)"), parsed("''(a)"), parsed("[a]"), parsed("[a|a]"), parsed("f(a,a,a)"),
		chain(impl.MaxCells), chain(impl.MaxCells - 1), wideTerm(impl.MaxCells - impl.MaxArity),
	}
}

func TestUnifyConstants(t *testing.T) {
	for i, a := range eachKind() {
		for k, b := range eachKind() {
			sub, code := impl.Unify(a, b)
			want := impl.CodeFail
			if i == k {
				want = impl.CodeOK
			}
			if code != want || len(sub) != 0 {
				t.Errorf("%.100s, %.100s: %d %.100s", showCells(a), showCells(b), code, showSub(sub))
			}
		}
	}
}

func TestUnifyVariableWithEachKind(t *testing.T) {
	for _, v := range []int{0, 1, 77, impl.MaxVar} {
		for _, x := range eachKind() {
			sub, code := unifies(t, varTerm(v), x)
			if code != impl.CodeOK {
				t.Errorf("%.100s: %d", showCells(x), code)
			}
			wantSub(t, showCells(x), sub, []impl.Binding{bind(v, x)})
		}
	}
}

func TestUnifyOfSameTerms(t *testing.T) {
	d := dice(52)
	terms := validTerms()
	for range 1000 {
		terms = append(terms, randomTerm(&d, 4))
	}
	for _, x := range terms {
		if sub, code := impl.Unify(x, copyTerm(x)); code != impl.CodeOK || len(sub) != 0 {
			t.Errorf("%.200s with itself: %d %.200s", showCells(x), code, showSub(sub))
		}
	}
}

func TestUnifyVariables(t *testing.T) {
	wantUnified(t, []unified{
		{"X3", "X3", ""}, {"X0", "X0", ""}, {"X3", "X5", "X5=X3"}, {"X0", "X1", "X1=X0"}, {"X0", "X1000000", "X1000000=X0"},
		{"f(X3)", "f(X3)", ""}, {"f(X3,X5)", "f(X5,X3)", "X5=X3"}, {"f(X3,X3)", "f(X5,X5)", "X5=X3"},
		// The one that is bound is found by the variables that stand at the end of the way.
		{"f(X5,X5)", "f(X3,X7)", "X5=X3 X7=X3"}, {"f(X5,X5)", "f(X7,X3)", "X5=X3 X7=X3"}, {"f(X5,X5)", "f(X3,X1)", "X3=X1 X5=X1"},
		{"f(X5,X7,X5)", "f(X4,X6,X7)", "X5=X4 X6=X4 X7=X4"}, {"f(X5,X7,X7)", "f(X6,X4,X5)", "X5=X4 X6=X4 X7=X4"},
		{"f(X1,X2,X3)", "f(X2,X3,X4)", "X2=X1 X3=X1 X4=X1"}, {"f(X4,X3,X2)", "f(X3,X2,X1)", "X2=X1 X3=X1 X4=X1"},
		{"f(X2,X4,X1)", "f(X1,X3,X3)", "X2=X1 X3=X1 X4=X1"}, {"f(X4,X2,X2)", "f(X9,X9,X0)", "X2=X0 X4=X0 X9=X0"},
	})
}

func TestUnifyBoundVariables(t *testing.T) {
	wantUnified(t, []unified{
		{"f(X1,b)", "f(a,X2)", "X1=a X2=b"}, {"f(X2,X1)", "f(a,b)", "X1=b X2=a"}, {"f(X1,X1)", "f(a,a)", "X1=a"},
		{"f(X1,X1)", "f(a,b)", "fail"}, {"f(X1,X1)", "f(a,1)", "fail"}, {"f(X1,X1)", "f(g(a),g(b))", "fail"},
		{"f(X1,X1)", "f(a,X2)", "X1=a X2=a"}, {"f(X1,X1)", "f(X2,a)", "X1=a X2=a"}, {"f(X2,X2)", "f(X1,a)", "X1=a X2=a"},
		{"f(X1,X1,X1)", "f(X2,a,b)", "fail"}, {"f(X1,X2,a)", "f(X2,X1,X1)", "X1=a X2=a"},
		{"f(X1,X2,X3)", "f(X2,X3,a)", "X1=a X2=a X3=a"}, {"f(X3,X2,X1)", "f(X2,X1,a)", "X1=a X2=a X3=a"},
		{"f(X1,X2)", "f(g(X2),a)", "X1=g(a) X2=a"}, {"f(X2,X1)", "f(a,g(X2))", "X1=g(a) X2=a"},
		{"f(X1,X2)", "f(g(X2),h(X3))", "X1=g(h(X3)) X2=h(X3)"}, {"f(X1,X2,X3)", "f(g(X2,X3),h(X3),c)", "X1=g(h(c),c) X2=h(c) X3=c"},
		{"f(X1,X1)", "f(g(X2),g(a))", "X1=g(a) X2=a"}, {"f(X1,X1)", "f(g(X2,b),g(a,X3))", "X1=g(a,b) X2=a X3=b"},
		{"f(X1,X1)", "f(g(X3),g(X2))", "X1=g(X2) X3=X2"}, {"f(X1,X1,X2)", "f(g(X3),g(X2),X4)", "X1=g(X2) X3=X2 X4=X2"},
		{"f(X1,X2,X1)", "f(g(X3),g(X4),X2)", "X1=g(X3) X2=g(X3) X4=X3"}, {"f(X1,X2,X1)", "f(g(a),g(b),X2)", "fail"},
		{"f(X1,X1,X1)", "f(g(X2),g(X3),g(a))", "X1=g(a) X2=a X3=a"}, {"f(X9,X1)", "f(X1,X9)", "X9=X1"},
		{"[X1|X2]", "[a,b]", "X1=a X2=[b]"}, {"[X1,X2|X3]", "[X2,a]", "X1=a X2=a X3=[]"}, {"X1+X2*X1", "3+X3", "X1=3 X3=X2*3"},
		{"f(X1,X2)", "f(X1,X2)", ""}, {"f(X1,g(X1))", "f(X2,X3)", "X2=X1 X3=g(X1)"}, {"f(1,X1)", "f(X1,1)", "X1=1"},
	})
}

func TestUnifyCyclic(t *testing.T) {
	wantUnified(t, []unified{
		// At once, however deep.
		{"X1", "f(X1)", "cyclic"}, {"X0", "f(a,X0)", "cyclic"}, {"X1", "f(g(h(1,X1)))", "cyclic"}, {"X1", "f(X1,X1)", "cyclic"},
		{"X1", "[a|X1]", "cyclic"}, {"g(X1)", "g(f(X1))", "cyclic"}, {"X1", "f(X2,X1)", "cyclic"}, {"X2", "f(X1)", "X2=f(X1)"},
		// By what others are bound to.
		{"f(X1,X2)", "f(g(X2),g(X1))", "cyclic"}, {"f(X2,X1)", "f(g(X1),g(X2))", "cyclic"}, {"f(X1,X2)", "f(g(X2),X1)", "cyclic"},
		{"f(X1,X1)", "f(X2,g(X2))", "cyclic"}, {"f(X1,X1)", "f(g(X2),X2)", "cyclic"}, {"p(X1,f(X1))", "p(X2,X2)", "cyclic"},
		{"f(X1,X2,X3)", "f(g(X2),g(X3),g(X1))", "cyclic"}, {"f(X3,X2,X1)", "f(g(X2),g(X1),g(X3))", "cyclic"},
		{"f(X1,X2,X3,X4)", "f(X2,X3,X4,g(X1))", "cyclic"}, {"f(X4,X3,X2,X1)", "f(X3,X2,X1,g(X4))", "cyclic"},
		{"f(X1,X1)", "f(g(X2),g(h(X2)))", "cyclic"}, {"f(X1,X2,X1)", "f(g(X3),g(X3),g(g(X2)))", "cyclic"},
		{"f(X1,X2,X3)", "f(g(a,X2),h(b,X3),k(X4,X1))", "cyclic"}, {"f(X1,X2,X3)", "f(g(a,X2),h(b,X3),k(X4,X5))", "X1=g(a,h(b,k(X4,X5))) X2=h(b,k(X4,X5)) X3=k(X4,X5)"},
		// Not by standing twice, nor against itself.
		{"X1", "X1", ""}, {"f(X1,X1)", "f(X1,X1)", ""}, {"f(X1,X2)", "f(X2,X1)", "X2=X1"}, {"f(X1,X1,X1)", "f(X2,X2,X1)", "X2=X1"},
		{"f(X1,X1)", "f(g(X2),g(X2))", "X1=g(X2)"}, {"f(X1,g(X1))", "f(X2,g(X2))", "X2=X1"}, {"f(X1,X1)", "f(g(X2),X1)", "X1=g(X2)"},
		{"f(X1,X2)", "f(g(X3,X3),g(X1,X1))", "X1=g(X3,X3) X2=g(g(X3,X3),g(X3,X3))"},
	})
}

// Which of two faults comes tells which pair came first.
func TestUnifyOrderOfPairs(t *testing.T) {
	wantUnified(t, []unified{
		{"f(a,X1)", "f(b,g(X1))", "fail"}, {"f(X1,a)", "f(g(X1),b)", "cyclic"},
		{"f(c,a,X1)", "f(c,b,g(X1))", "fail"}, {"f(c,X1,a)", "f(c,g(X1),b)", "cyclic"},
		{"f(X1,a,X1)", "f(c,b,g(X1))", "fail"}, {"f(X1,X2,X1)", "f(c,g(X2),d)", "cyclic"},
		{"f(X1,k(a))", "f(h(X1),j(a))", "cyclic"}, {"f(k(a),X1)", "f(j(a),h(X1))", "fail"},
		// The pairs of arguments come in front of those that are left.
		{"f(g(a),X1)", "f(g(b),h(X1))", "fail"}, {"f(g(X1),a)", "f(g(h(X1)),b)", "cyclic"},
		{"f(g(c,X1),a)", "f(g(c,h(X1)),b)", "cyclic"}, {"f(g(c,a),X1)", "f(g(c,b),h(X1))", "fail"},
		{"f(k(k(k(a))),k(X1))", "f(k(k(k(b))),k(h(X1)))", "fail"}, {"f(k(k(k(X1))),a)", "f(k(k(k(h(X1)))),b)", "cyclic"},
		{"f(g(X1,X2),X1,X2)", "f(g(a,X3),b,h(X3))", "fail"}, {"f(g(X1,X2),X2,X1)", "f(g(a,X3),h(X3),b)", "cyclic"},
		// So do those of what variables are bound to.
		{"f(X1,X1,X3)", "f(g(a),g(b),h(X3))", "fail"}, {"f(X1,X1,a)", "f(g(X3),g(h(X3)),b)", "cyclic"},
		// A name or an arity fails ahead of arguments.
		{"f(X1)", "g(h(X1))", "fail"}, {"f(X1)", "f(h(X1),X2)", "fail"}, {"f(k(X1),X1)", "f(j(h(X1)),h(X1))", "fail"},
	})
}

func TestUnifyAscends(t *testing.T) {
	const n = 300
	var vars, values [][]impl.Cell
	var want []impl.Binding
	for i := range n {
		v := i * 7 % n // each number below n once, in no order
		vars, values = append(vars, varTerm(v*5)), append(values, intTerm(v))
		want = append(want, bind(i*5, intTerm(i)))
	}
	sub, code := unifies(t, listTerm(vars...), listTerm(values...))
	if code != impl.CodeOK {
		t.Errorf("%d", code)
	}
	wantSub(t, "many variables", sub, want)
}

func TestUnifyBadTerms(t *testing.T) {
	for i, x := range badTerms() {
		for _, good := range [][]impl.Cell{atomTerm("a"), varTerm(0), x} {
			if sub, code := unifies(t, x, good); code != impl.CodeBad || len(sub) != 0 {
				t.Errorf("bad term %d: %d %.200s", i, code, showSub(sub))
			}
		}
	}
}
