package tests

import (
	"math"
	"testing"

	"loop.example/s00095/impl"
)

// wantLike asks whether two terms are variants, whether the first subsumes the second, and the second the first.
func wantLike(t *testing.T, a []impl.Cell, b []impl.Cell, variant bool, over bool, under bool) {
	t.Helper()
	if got := impl.Variant(a, b); got != variant {
		t.Errorf("%.200s, %.200s: variants %v", showCells(a), showCells(b), got)
	}
	if got := impl.Variant(b, a); got != variant {
		t.Errorf("%.200s, %.200s: variants turned %v", showCells(a), showCells(b), got)
	}
	if got := impl.Subsumes(a, b); got != over {
		t.Errorf("%.200s subsumes %.200s: %v", showCells(a), showCells(b), got)
	}
	if got := impl.Subsumes(b, a); got != under {
		t.Errorf("%.200s subsumes %.200s: %v", showCells(b), showCells(a), got)
	}
}

func TestLikeConstants(t *testing.T) {
	for i, a := range eachKind() {
		for k, b := range eachKind() {
			wantLike(t, a, b, i == k, i == k, i == k)
		}
		wantLike(t, varTerm(1), a, false, true, false)
	}
}

func TestLikeTerms(t *testing.T) {
	cases := []struct {
		a, b                 string
		variant, over, under bool
	}{
		{"X1", "X1", true, true, true}, {"X1", "X2", true, true, true}, {"X0", "X1000000", true, true, true},
		{"f(X1,X2)", "f(X7,X3)", true, true, true}, {"f(X1,X2,X1)", "f(X3,X0,X3)", true, true, true},
		{"f(X1,g(X2),a)", "f(X5,g(X6),a)", true, true, true}, {"f(X1,g(X2),a)", "f(X5,g(X6),b)", false, false, false},
		// Variables that both terms have.
		{"f(X1,X2)", "f(X2,X1)", true, true, true}, {"f(X1,X2,X3)", "f(X2,X3,X1)", true, true, true},
		{"f(X1,X2)", "f(X2,X3)", true, true, true}, {"f(X1,X2,X1)", "f(X2,X1,X1)", false, false, false},
		{"X1", "f(X1)", false, true, false}, {"X1", "f(X1,X1)", false, true, false}, {"f(X1,X2)", "f(X2,g(X1))", false, true, false},
		{"f(X1,X2)", "f(g(X2),h(X1))", false, true, false}, {"f(X1,X1)", "f(g(X1),g(X1))", false, true, false},
		{"f(X1,a)", "f(b,X1)", false, false, false}, {"f(X1,X2)", "f(X2,X2)", false, true, false},
		// One variable against two, and two against one.
		{"f(X1,X1)", "f(X7,X3)", false, false, true}, {"f(X1,X1)", "f(X1,X2)", false, false, true}, {"f(X1,X1)", "f(X2,X1)", false, false, true},
		{"f(X1,X2,X3)", "f(X1,X2,X1)", false, true, false}, {"f(X1,X2,X2)", "f(X1,X1,X2)", false, false, false},
		{"f(X1,X1,X2)", "f(X1,X2,X2)", false, false, false}, {"f(X1,g(X1),X2)", "f(X1,g(X2),X2)", false, false, false},
		{"f(X1,X2,X1,X2)", "f(X3,X3,X3,X3)", false, true, false}, {"f(X1,X2,X1,X2)", "f(X3,X4,X4,X3)", false, false, false},
		// Variables against other terms.
		{"f(X1,X1)", "f(a,a)", false, true, false}, {"f(X1,X1)", "f(a,b)", false, false, false}, {"f(X1,X1)", "f(1,'1')", false, false, false},
		{"f(X1,g(X1))", "f(h(X2),g(h(X2)))", false, true, false}, {"f(X1,g(X1))", "f(h(X2),g(h(X3)))", false, false, false},
		{"f(X1,X1)", "f(g(X2,X3),g(X2,X3))", false, true, false}, {"f(X1,X1)", "f(g(X2,X3),g(X3,X2))", false, false, false},
		{"f(X1,X1)", "f(a,X2)", false, false, false}, {"f(X1,X1)", "f(X2,a)", false, false, false}, {"f(X1,X2)", "f(a,X2)", false, true, false},
		{"f(a,X1)", "f(X2,b)", false, false, false}, {"f(X1,b)", "f(a,X2)", false, false, false}, {"[X1|X2]", "[a,b]", false, true, false},
		// Other names, arities and kinds.
		{"f(X1)", "f(X1,X2)", false, false, false}, {"f(X1)", "g(X1)", false, false, false}, {"f(X1)", "f", false, false, false},
		{"f(X1,a)", "f(X1,1)", false, false, false}, {"f(g(X1))", "f(X1)", false, false, true}, {"f(X1,a)", "f(X1,b)", false, false, false},
	}
	for _, c := range cases {
		wantLike(t, parsed(c.a), parsed(c.b), c.variant, c.over, c.under)
	}
}

func TestLikeItself(t *testing.T) {
	for _, x := range validTerms() {
		wantLike(t, x, copyTerm(x), true, true, true)
	}
}

// Neither asks how many variables there are, nor how often they stand.
func TestLikeGreatTerms(t *testing.T) {
	const n = 1890
	many, others, one := wideOf(varTerm(7), varsFrom(10, n)...), wideOf(varTerm(8), varsFrom(20, n)...), wideOf(varTerm(9), manyItems(n, varTerm(9))...)
	wantLike(t, many, others, true, true, true)
	wantLike(t, many, one, false, true, false)
	wantLike(t, wideOf(varTerm(20), varsFrom(10, n)...), wideOf(varTerm(21), varsFrom(10, n)...), false, false, false)
	deep := chainTo(impl.MaxCells, varTerm(5))
	wantLike(t, deep, chainTo(impl.MaxCells, varTerm(6)), true, true, true)
	wantLike(t, deep, chain(impl.MaxCells), false, true, false)
	wantLike(t, deep, chainTo(impl.MaxCells-1, varTerm(5)), false, false, true)
	half := chain(999)
	wantLike(t, parsed("f(X1,X1)"), compTerm("f", half, half), false, true, false)
	wantLike(t, parsed("f(X1,X1)"), compTerm("f", half, chainTo(999, atomTerm("b"))), false, false, false)
	wantLike(t, parsed("f(X1,X1)"), compTerm("f", half, half[1:]), false, false, false)
}

func TestLikeBadTerms(t *testing.T) {
	for _, x := range badTerms() {
		wantLike(t, x, atomTerm("a"), false, false, false)
		wantLike(t, x, varTerm(0), false, false, false)
		wantLike(t, x, copyTerm(x), false, false, false)
	}
	huge := []impl.Cell{{Kind: impl.TermVar, N: math.MaxInt}}
	wantLike(t, huge, varTerm(1), false, false, false)
}

// refSubsumes lays the cells of both terms side by side; a variable of the general one skips a whole term of the other.
func refSubsumes(general []impl.Cell, special []impl.Cell) bool {
	put := map[int]string{}
	for i := range general {
		size := 1
		if general[i].Kind == impl.TermVar {
			size = firstSize(special)
			part := showCells(special[:size])
			if known, isPut := put[general[i].N]; isPut && known != part {
				return false
			}
			put[general[i].N] = part
		} else if showCells(general[i:i+1]) != showCells(special[:1]) {
			return false
		}
		special = special[size:]
	}
	return true
}

// firstSize is the number of cells of the term that cells begin with.
func firstSize(cells []impl.Cell) int {
	missing := 1
	for i, c := range cells {
		missing--
		if c.Kind == impl.TermComp {
			missing += c.N
		}
		if missing == 0 {
			return i + 1
		}
	}
	return len(cells)
}

func TestLikeReference(t *testing.T) {
	d := dice(53)
	variants, over := 0, 0
	for range 8000 {
		whole := leafyTerm(&d, 3)
		a, b := holed(&d, whole), holed(&d, whole)
		variant, above, below := differAsVariants(a, b) == "", refSubsumes(a, b), refSubsumes(b, a)
		wantLike(t, a, b, variant, above, below)
		if variant != (above && below) {
			t.Errorf("%s, %s: variants and no cover of each other, or the other way", showCells(a), showCells(b))
		}
		if variant {
			variants++
		}
		if above != below {
			over++
		}
		sub := randomSub(&d)
		if !impl.Subsumes(a, refApply(sub, a)) {
			t.Errorf("%s, %s: what is made of it is not below it", showCells(a), showSub(sub))
		}
		if !impl.Variant(a, impl.Renumber(a)) {
			t.Errorf("%s: renumbered, no variant", showCells(a))
		}
	}
	if variants < 500 || over < 500 {
		t.Errorf("%d variants and %d more general terms are few", variants, over)
	}
}
