package tests

import (
	"fmt"
	"math"
	"slices"
	"testing"

	"loop.example/s00095/impl"
)

func TestUnifyLimits(t *testing.T) {
	if impl.MaxBindings != 1000 || impl.MaxPairs != 20000 {
		t.Errorf("limits: %d %d", impl.MaxBindings, impl.MaxPairs)
	}
}

func wantApplied(t *testing.T, sub []impl.Binding, x []impl.Cell, want []impl.Cell) {
	t.Helper()
	got, code := impl.Apply(sub, x)
	if code != impl.CodeOK || showCells(got) != showCells(want) {
		t.Errorf("%.200s on %.200s: %d\n got %.400s\nwant %.400s", showSub(sub), showCells(x), code, showCells(got), showCells(want))
	}
}

func wantNotApplied(t *testing.T, what string, sub []impl.Binding, x []impl.Cell, want int) {
	t.Helper()
	if got, code := impl.Apply(sub, x); code != want || len(got) != 0 {
		t.Errorf("%s: %d and %d cells, want %d and none", what, code, len(got), want)
	}
}

func TestApplyNothing(t *testing.T) {
	for _, x := range validTerms() {
		wantApplied(t, nil, x, x)
		wantApplied(t, []impl.Binding{}, x, x)
	}
}

func TestApplyTerms(t *testing.T) {
	cases := []struct{ sub, term, want string }{
		{"X1=a", "X1", "a"}, {"X1=7", "X1", "7"}, {"X1=X9", "X1", "X9"}, {"X1=f(a)", "X1", "f(a)"}, {"X1=X1", "X1", "X1"},
		{"X0=a", "X0", "a"}, {"X1000000=a", "f(X1000000,X999999)", "f(a,X999999)"},
		{"X1=a", "f(X1,X2)", "f(a,X2)"}, {"X2=a", "f(X1,X2)", "f(X1,a)"}, {"X1=a", "f(X0,X1,X2)", "f(X0,a,X2)"},
		{"X1=g(b)", "f(X1,X1,h(X1,c,X1))", "f(g(b),g(b),h(g(b),c,g(b)))"},
		{"X1=a X2=b X3=c", "f(X3,X1,X3,X2)", "f(c,a,c,b)"},
		{"X5=a", "f(X1,b,2)", "f(X1,b,2)"}, {"X5=a X6=b", "c", "c"}, {"X5=a X7=f(X6)", "X6", "X6"},
		{"X1=a", "f(1,'X1',X1)", "f(1,'X1',a)"}, {"X0=a", "f(0,'',X0)", "f(0,'',a)"}, {"X1=a", "'X1'(X1)", "'X1'(a)"},
		// What is put in is not gone through again.
		{"X1=f(X1)", "g(X1,X1)", "g(f(X1),f(X1))"}, {"X1=X2 X2=X1", "f(X1,X2,X1)", "f(X2,X1,X2)"},
		{"X1=X2 X2=X3 X3=a", "f(X1,X2,X3)", "f(X2,X3,a)"}, {"X0=g(X1,X0) X1=h(X0)", "f(X0,X1)", "f(g(X1,X0),h(X0))"},
		{"X1=a X2=f(X1)", "g(X2,X1)", "g(f(X1),a)"}, {"X1=f(X2) X2=a", "[X1,X2|X1]", "[f(X2),a|f(X2)]"},
	}
	for _, c := range cases {
		wantApplied(t, parsedSub(c.sub), parsed(c.term), parsed(c.want))
	}
}

// badSubs miss being a valid substitution in one way each.
func badSubs() map[string][]impl.Binding {
	a := atomTerm("a")
	bad := map[string][]impl.Binding{
		"falling":             {bind(2, a), bind(1, a)},
		"twice":               {bind(2, a), bind(2, a)},
		"twice, others":       {bind(2, a), bind(2, atomTerm("b"))},
		"twice at 0":          {bind(0, a), bind(0, a)},
		"twice at the end":    {bind(1, a), bind(2, a), bind(impl.MaxVar, a), bind(impl.MaxVar, a)},
		"falling at the end":  {bind(1, a), bind(3, a), bind(2, a)},
		"falling to the last": {bind(1, a), bind(3, a), bind(0, a)},
		"one too many":        manyBindings(impl.MaxBindings + 1),
		"many too many":       manyBindings(30000),
		"a copy too many":     slices.Concat(manyBindings(impl.MaxBindings), manyBindings(impl.MaxBindings)),
	}
	for _, v := range []int{-1, -2, math.MinInt, impl.MaxVar + 1, math.MaxInt} {
		bad[fmt.Sprint("variable ", v)] = []impl.Binding{bind(v, a)}
	}
	bad["variable -1 ahead"] = []impl.Binding{bind(-1, a), bind(1, a)}
	bad["variable behind the last"] = []impl.Binding{bind(1, a), bind(impl.MaxVar, a), bind(impl.MaxVar+1, a)}
	for i, x := range badTerms() {
		bad[fmt.Sprint("term ", i)] = []impl.Binding{bind(1, x)}
		bad[fmt.Sprint("first term ", i)] = []impl.Binding{bind(1, x), bind(2, a)}
		bad[fmt.Sprint("last term ", i)] = []impl.Binding{bind(1, a), bind(2, a), bind(3, x)}
	}
	return bad
}

func manyBindings(n int) []impl.Binding {
	var sub []impl.Binding
	for i := range n {
		sub = append(sub, bind(2*i+1, intTerm(i)))
	}
	return sub
}

func TestApplyBadSubstitutions(t *testing.T) {
	for what, sub := range badSubs() {
		for _, x := range [][]impl.Cell{atomTerm("a"), varTerm(1), varTerm(77), compTerm("f", varTerm(1), varTerm(2))} {
			wantNotApplied(t, what, sub, x, impl.CodeBad)
		}
	}
}

func TestApplyBadTerms(t *testing.T) {
	for i, x := range badTerms() {
		for _, sub := range [][]impl.Binding{nil, parsedSub("X0=a"), parsedSub("X1=f(X1) X2=a")} {
			wantNotApplied(t, fmt.Sprint("bad term ", i), sub, x, impl.CodeBad)
		}
	}
}

func TestApplyBindingBounds(t *testing.T) {
	sub := manyBindings(impl.MaxBindings)
	wantApplied(t, sub, compTerm("f", varTerm(1), varTerm(2), varTerm(2*impl.MaxBindings-1), varTerm(2*impl.MaxBindings)),
		compTerm("f", intTerm(0), varTerm(2), intTerm(impl.MaxBindings-1), varTerm(2*impl.MaxBindings)))
	for i := range sub {
		wantApplied(t, sub, varTerm(2*i+1), intTerm(i))
	}
	ends := []impl.Binding{bind(0, varTerm(impl.MaxVar)), bind(impl.MaxVar, varTerm(0))}
	wantApplied(t, ends, compTerm("f", varTerm(0), varTerm(impl.MaxVar)), compTerm("f", varTerm(impl.MaxVar), varTerm(0)))
}

func TestApplyCellBounds(t *testing.T) {
	full := chain(impl.MaxCells)
	wantApplied(t, []impl.Binding{bind(3, full)}, varTerm(3), full)
	wantApplied(t, []impl.Binding{bind(3, full)}, compTerm("f", varTerm(4)), compTerm("f", varTerm(4)))
	wantNotApplied(t, "one more around it", []impl.Binding{bind(3, full)}, compTerm("f", varTerm(3)), impl.CodeLimit)
	for n := range 10 {
		once, twice := chain(1995+n), chain(995+n)
		wantApplyKeeps(t, []impl.Binding{bind(3, once)}, compTerm("f", compTerm("g", varTerm(3))), 1997+n)
		wantApplyKeeps(t, []impl.Binding{bind(3, twice)}, compTerm("f", varTerm(3), varTerm(3)), 1991+2*n)
		wantApplyKeeps(t, []impl.Binding{bind(3, twice)}, compTerm("f", varTerm(3), intTerm(1), varTerm(3)), 1992+2*n)
		wantApplyKeeps(t, []impl.Binding{bind(3, once)}, compTerm("f", varTerm(4), varTerm(3), varTerm(4)), 1998+n)
		wantApplyKeeps(t, []impl.Binding{bind(3, twice), bind(4, once[1000:])}, compTerm("f", varTerm(4), varTerm(3)), 1991+2*n)
	}
	wantNotApplied(t, "in each place", []impl.Binding{bind(3, full)}, wideOf(varTerm(3), manyItems(1800, varTerm(3))...), impl.CodeLimit)
	wantNotApplied(t, "two in each place", []impl.Binding{bind(3, parsed("f(a)"))}, listTerm(manyItems(999, varTerm(3))...), impl.CodeLimit)
	wantApplied(t, []impl.Binding{bind(3, atomTerm("a"))}, listTerm(manyItems(999, varTerm(3))...), listTerm(manyItems(999, atomTerm("a"))...))
	bad := []impl.Binding{bind(3, full), bind(4, nil)}
	wantNotApplied(t, "not valid and too great", bad, compTerm("f", varTerm(3)), impl.CodeBad)
}

// wantApplyKeeps asks for so many cells, or for CodeLimit where these are too many. A substitution that is not valid
// itself is no case of this.
func wantApplyKeeps(t *testing.T, sub []impl.Binding, x []impl.Cell, cells int) {
	t.Helper()
	if slices.ContainsFunc(sub, func(b impl.Binding) bool { return !impl.ValidTerm(b.Term) }) {
		return
	}
	if cells > impl.MaxCells {
		wantNotApplied(t, fmt.Sprint(cells, " cells"), sub, x, impl.CodeLimit)
	} else {
		wantApplied(t, sub, x, refApply(sub, x))
		if got := len(refApply(sub, x)); got != cells {
			t.Errorf("%d cells, want %d", got, cells)
		}
	}
}

// refApply puts cells in the place of cells, as a term in preorder allows it.
func refApply(sub []impl.Binding, x []impl.Cell) []impl.Cell {
	var out []impl.Cell
	for _, c := range x {
		at := slices.IndexFunc(sub, func(b impl.Binding) bool { return c.Kind == impl.TermVar && b.Var == c.N })
		if at >= 0 {
			out = append(out, sub[at].Term...)
		} else {
			out = append(out, c)
		}
	}
	return out
}

func randomSub(d *dice) []impl.Binding {
	var sub []impl.Binding
	for _, v := range []int{0, 1, 2, 8, 9, impl.MaxVar} {
		if d.below(2) == 0 {
			sub = append(sub, bind(v, randomTerm(d, 2)))
		}
	}
	return sub
}

func TestApplyPutsCellsIn(t *testing.T) {
	d := dice(51)
	for range 5000 {
		sub, x := randomSub(&d), randomTerm(&d, 4)
		wantApplied(t, sub, x, refApply(sub, x))
	}
}
