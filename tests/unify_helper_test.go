package tests

import (
	"fmt"
	"slices"
	"strconv"
	"strings"
	"testing"

	"loop.example/s00095/impl"
)

// parsed is a term as a program writes it; the variables are X0, X1, .. and have these numbers.
func parsed(src string) []impl.Cell {
	c, code, at := impl.ReadTerm(impl.DefaultOps(), []byte(src+" ."))
	if code != impl.CodeOK {
		panic(fmt.Sprintf("%s: %d@%d", src, code, at))
	}
	for i, cell := range c.Term {
		if cell.Kind == impl.TermVar {
			n, err := strconv.Atoi(string(c.Names[cell.N][1:]))
			if err != nil {
				panic(err)
			}
			c.Term[i].N = n
		}
	}
	return c.Term
}

func bind(v int, t []impl.Cell) impl.Binding {
	return impl.Binding{Var: v, Term: t}
}

// parsedSub makes a substitution of words such as X1=f(X2,a).
func parsedSub(text string) []impl.Binding {
	var sub []impl.Binding
	for _, word := range strings.Fields(text) {
		v, t, _ := strings.Cut(word, "=")
		sub = append(sub, bind(parsed(v)[0].N, parsed(t)))
	}
	return sub
}

func showSub(sub []impl.Binding) string {
	var out []string
	for _, b := range sub {
		out = append(out, fmt.Sprintf("%d=[%s]", b.Var, showCells(b.Term)))
	}
	return strings.Join(out, " ")
}

func copySub(sub []impl.Binding) []impl.Binding {
	var out []impl.Binding
	for _, b := range sub {
		out = append(out, bind(b.Var, copyTerm(b.Term)))
	}
	return out
}

func wantSub(t *testing.T, what string, got []impl.Binding, want []impl.Binding) {
	t.Helper()
	if showSub(got) != showSub(want) {
		t.Errorf("%.200s:\n got %.400s\nwant %.400s", what, showSub(got), showSub(want))
	}
}

// unifies asks for the same answer whichever of the two terms comes first.
func unifies(t *testing.T, a []impl.Cell, b []impl.Cell) ([]impl.Binding, int) {
	t.Helper()
	sub, code := impl.Unify(a, b)
	turned, turnedCode := impl.Unify(b, a)
	if code != turnedCode || showSub(sub) != showSub(turned) {
		t.Errorf("%.200s, %.200s: %d %.200s, and turned %d %.200s", showCells(a), showCells(b), code, showSub(sub), turnedCode, showSub(turned))
	}
	if code != impl.CodeOK && len(sub) != 0 {
		t.Errorf("%.200s, %.200s: %d, with bindings", showCells(a), showCells(b), code)
	}
	return sub, code
}

func wantCode(t *testing.T, what string, a []impl.Cell, b []impl.Cell, want int) {
	t.Helper()
	if !impl.ValidTerm(a) || !impl.ValidTerm(b) {
		t.Fatalf("%s: no valid terms, of %d and %d cells", what, len(a), len(b))
	}
	if _, code := unifies(t, a, b); code != want {
		t.Errorf("%s: %d, want %d", what, code, want)
	}
}

// wideOf has all the items as arguments, in their order, and then the end; it needs fewer cells than a list.
func wideOf(end []impl.Cell, items ...[]impl.Cell) []impl.Cell {
	out := end
	for n := len(items); n > 0; {
		from := max(0, n-impl.MaxArity+1)
		out = compTerm("w", append(slices.Clone(items[from:n]), out)...)
		n = from
	}
	return out
}

// varsFrom are n variables with numbers that follow each other.
func varsFrom(first int, n int) [][]impl.Cell {
	var vars [][]impl.Cell
	for i := range n {
		vars = append(vars, varTerm(first+i))
	}
	return vars
}
