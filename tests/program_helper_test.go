package tests

import (
	"fmt"
	"slices"
	"strings"
	"testing"

	"loop.example/s00095/impl"
)

// clausesIn are the clauses of a text.
func clausesIn(src string) []impl.Clause {
	clauses, _, code, at := impl.ReadClauses(impl.DefaultOps(), []byte(src))
	if code != impl.CodeOK {
		panic(fmt.Sprintf("%.200s: %d@%d", src, code, at))
	}
	return clauses
}

func built(t *testing.T, src string) impl.Program {
	t.Helper()
	p, code, at := impl.BuildProgram(clausesIn(src))
	if code != impl.CodeOK || at != 0 {
		t.Fatalf("%.200s: %d@%d", src, code, at)
	}
	return p
}

// pred is a predicate of clauses whose variables are X0, X1, ..
func pred(name string, arity int, clauses ...string) impl.Pred {
	return impl.Pred{Name: []byte(name), Arity: arity, Clauses: goalTerms(clauses...)}
}

func dynamicPred(name string, arity int, clauses ...string) impl.Pred {
	p := pred(name, arity, clauses...)
	p.Dynamic = true
	return p
}

func goalTerms(sources ...string) [][]impl.Cell {
	var terms [][]impl.Cell
	for _, src := range sources {
		terms = append(terms, parsed(src))
	}
	return terms
}

func programWith(preds ...impl.Pred) impl.Program {
	return impl.Program{Preds: preds}
}

// showProgram tells all that a program holds.
func showProgram(p impl.Program) string {
	var out []string
	for _, q := range p.Preds {
		out = append(out, fmt.Sprintf("%q/%d %v %s", q.Name, q.Arity, q.Dynamic, showLists(q.Clauses)))
	}
	return strings.Join(append(out, "goals "+showLists(p.Goals)), "\n")
}

func isZeroProgram(p impl.Program) bool {
	return len(p.Preds) == 0 && len(p.Goals) == 0
}

func copyProgram(p impl.Program) impl.Program {
	out := impl.Program{Goals: copyLists(p.Goals)}
	for _, q := range p.Preds {
		out.Preds = append(out.Preds, impl.Pred{Name: slices.Clone(q.Name), Arity: q.Arity, Dynamic: q.Dynamic, Clauses: copyLists(q.Clauses)})
	}
	return out
}

func wantProgram(t *testing.T, what string, got impl.Program, want impl.Program) {
	t.Helper()
	if showProgram(got) != showProgram(want) {
		t.Errorf("%.300s:\n got %.1500s\nwant %.1500s", what, showProgram(got), showProgram(want))
	}
}

// translation is NormalBody or TranslateGrammar.
type translation func(t []impl.Cell) ([]impl.Cell, int)

// wantTranslated asks for terms whose variables are X0, X1, ..
func wantTranslated(t *testing.T, translate translation, cases map[string]string) {
	t.Helper()
	for src, want := range cases {
		wantMade(t, src, translate, parsed(src), parsed(want))
	}
}

func wantMade(t *testing.T, what string, translate translation, from []impl.Cell, want []impl.Cell) {
	t.Helper()
	got, code := translate(from)
	if code != impl.CodeOK {
		t.Errorf("%.200s: %d", what, code)
		return
	}
	wantCells(t, what, got, want)
}

// wantNone asks for a code and nothing beside it.
func wantNone(t *testing.T, what string, translate translation, from []impl.Cell, want int) {
	t.Helper()
	if got, code := translate(from); code != want || len(got) != 0 {
		t.Errorf("%.200s: %d with %d cells, want %d", what, code, len(got), want)
	}
}

func wantNoneOf(t *testing.T, translate translation, want int, sources ...string) {
	t.Helper()
	for _, src := range sources {
		wantNone(t, src, translate, parsed(src), want)
	}
}

// manyOf joins so many texts.
func manyOf(n int, between string, text func(i int) string) string {
	var all []string
	for i := range n {
		all = append(all, text(i))
	}
	return strings.Join(all, between)
}

// numbered is a text that is given the numbers 0, 1, ..
func numbered(format string) func(i int) string {
	return func(i int) string { return fmt.Sprintf(format, i) }
}
