package tests

import (
	"fmt"
	"testing"

	"loop.example/s00095/impl"
)

// memoryPairs are terms that answer bindings with names in them, some of one and the same term, and some that do not.
func memoryPairs() [][2][]impl.Cell {
	shared := []byte("text")
	both := []impl.Cell{{Kind: impl.TermComp, N: 2, Text: shared}, {Kind: impl.TermAtom, Text: shared}, {Kind: impl.TermVar, N: 3}}
	return [][2][]impl.Cell{
		{varTerm(1), atomTerm("name")}, {varTerm(1), varTerm(2)}, {varTerm(1), both}, {both, both},
		{parsed("p(X1,X2,X4)"), compTerm("p", both, both, varTerm(1))}, {parsed("p(X1,X2,X3)"), parsed("p(g(name,X2),h(X3),name)")},
		{parsed("p(X1,X1,X1)"), parsed("p(g(X2,one),g(two,X3),X4)")}, {parsed("[X1,X2|X3]"), parsed("[X2,item,item,last]")},
		{parsed("p(X1,a)"), parsed("p(name,b)")}, {parsed("p(X1,X2)"), parsed("p(name,f(X2))")}, {atomTerm("a"), nil}, {varTerm(1), {{Kind: 9, Text: shared}}},
	}
}

func memorySubs() [][]impl.Binding {
	shared := compTerm("shared", atomTerm("name"), varTerm(2))
	return [][]impl.Binding{
		nil, parsedSub("X1=name"), parsedSub("X1=f(name,X1) X2=g(other)"), {bind(1, shared), bind(2, shared), bind(3, shared)},
		{bind(2, shared), bind(1, shared)}, {bind(1, nil)}, {bind(-1, shared)},
	}
}

// lendSub lays bindings with their terms amid spare ones, and answers a check that nothing of them was written into.
func lendSub(sub []impl.Binding) ([]impl.Binding, func() bool) {
	spare := bind(77, atomTerm("spare"))
	var checks []func() bool
	all := []impl.Binding{spare}
	for _, b := range sub {
		x, check := lend(b.Term)
		checks = append(checks, check)
		all = append(all, bind(b.Var, x))
	}
	all = append(all, spare, spare)
	before := showSub(all)
	return all[1 : len(sub)+1], func() bool {
		for _, check := range checks {
			if !check() {
				return false
			}
		}
		return showSub(all) == before
	}
}

func overwriteSub(sub []impl.Binding) {
	sub = sub[:cap(sub)]
	for i := range sub {
		overwriteCells(sub[i].Term)
		sub[i].Var += 50
	}
}

func termsOfSub(sub []impl.Binding) [][]impl.Cell {
	var terms [][]impl.Cell
	for _, b := range sub {
		terms = append(terms, b.Term)
	}
	return terms
}

func TestUnifyArgumentsStay(t *testing.T) {
	for _, p := range memoryPairs() {
		a, aStays := lend(p[0])
		b, bStays := lend(p[1])
		what := fmt.Sprintf("%s, %s", showCells(a), showCells(b))
		sub, _ := impl.Unify(a, b)
		turned, _ := impl.Unify(b, a)
		impl.Variant(a, b)
		impl.Subsumes(a, b)
		impl.Subsumes(b, a)
		if !aStays() || !bStays() {
			t.Errorf("%s: written into", what)
		}
		overwriteSub(sub)
		overwriteSub(turned)
		if !aStays() || !bStays() {
			t.Errorf("%s: an answer shares its memory", what)
		}
	}
}

func TestUnifyArgumentsAreNotKept(t *testing.T) {
	for _, p := range memoryPairs() {
		a, b := copyTerm(p[0]), copyTerm(p[1])
		sub, code := impl.Unify(a, b)
		before := showSub(sub)
		overwriteCells(a)
		overwriteCells(b)
		if showSub(sub) != before {
			t.Errorf("%s, %s: an answer changes with it", showCells(p[0]), showCells(p[1]))
		}
		if again, codeAgain := impl.Unify(p[0], p[1]); codeAgain != code || showSub(again) != before {
			t.Errorf("%s, %s: another answer the second time", showCells(p[0]), showCells(p[1]))
		}
		wantUnshared(t, "Unify", termsOfSub(sub))
	}
}

func TestApplyArgumentsStay(t *testing.T) {
	for _, s := range memorySubs() {
		for _, p := range memoryPairs() {
			sub, subStays := lendSub(s)
			x, xStays := lend(p[0])
			answer, _ := impl.Apply(sub, x)
			if !subStays() || !xStays() {
				t.Errorf("%s, %s: written into", showSub(s), showCells(p[0]))
			}
			overwriteCells(answer)
			if !subStays() || !xStays() {
				t.Errorf("%s, %s: an answer shares its memory", showSub(s), showCells(p[0]))
			}
		}
	}
}

func TestApplyArgumentsAreNotKept(t *testing.T) {
	for _, s := range memorySubs() {
		for _, p := range memoryPairs() {
			sub, x := copySub(s), copyTerm(p[0])
			answer, code := impl.Apply(sub, x)
			before := showCells(answer)
			overwriteSub(sub)
			overwriteCells(x)
			if showCells(answer) != before {
				t.Errorf("%s, %s: an answer changes with it", showSub(s), showCells(p[0]))
			}
			if again, codeAgain := impl.Apply(s, p[0]); codeAgain != code || showCells(again) != before {
				t.Errorf("%s, %s: another answer the second time", showSub(s), showCells(p[0]))
			}
			wantUnshared(t, "Apply", [][]impl.Cell{answer})
		}
	}
}
