package tests

import (
	"fmt"
	"testing"

	"loop.example/s00095/impl"
)

// pairsBefore makes two lists of items that take so many pairs ahead of that of their ends, and a variable that is
// bound on the way. Most are taken where a bound variable stands against itself, for what it is bound to.
func pairsBefore(count int) (left [][]impl.Cell, right [][]impl.Cell) {
	const deep = 500
	put := func(a []impl.Cell, b []impl.Cell, pairs int) {
		left, right = append(left, a), append(right, b)
		count -= 1 + pairs // and one for the pair of the lists
	}
	put(varTerm(1), chain(deep), 1)
	for count > deep+3 {
		put(varTerm(1), varTerm(1), deep)
	}
	if count%2 == 1 {
		put(parsed("g(a)"), parsed("g(a)"), 2)
	}
	for count > 0 {
		put(atomTerm("b"), atomTerm("b"), 1)
	}
	return left, right
}

// wantAtPair asks for a code where two ends are the pair with this number.
func wantAtPair(t *testing.T, number int, a []impl.Cell, b []impl.Cell, want int) {
	t.Helper()
	left, right := pairsBefore(number - 1)
	wantCode(t, fmt.Sprintf("%s, %s as pair %d", showCells(a), showCells(b), number), listEnding(a, left...), listEnding(b, right...), want)
}

func TestUnifyPairBounds(t *testing.T) {
	a, x, fx := atomTerm("a"), varTerm(9), compTerm("f", varTerm(9))
	for n := impl.MaxPairs - 3; n <= impl.MaxPairs; n++ {
		wantAtPair(t, n, a, a, impl.CodeOK)
		wantAtPair(t, n, x, x, impl.CodeOK)
		wantAtPair(t, n, x, a, impl.CodeOK)
		wantAtPair(t, n, a, atomTerm("b"), impl.CodeFail)
		wantAtPair(t, n, x, fx, impl.CodeCyclic)
	}
	for n := impl.MaxPairs + 1; n <= impl.MaxPairs+3; n++ {
		wantAtPair(t, n, a, a, impl.CodeLimit)
		wantAtPair(t, n, x, x, impl.CodeLimit)
		wantAtPair(t, n, x, a, impl.CodeLimit)
		wantAtPair(t, n, a, atomTerm("b"), impl.CodeLimit)
		wantAtPair(t, n, x, fx, impl.CodeLimit)
	}
	// Arguments are pairs of their own; those that are left count when they are taken.
	wantAtPair(t, impl.MaxPairs, parsed("f(a)"), parsed("f(a)"), impl.CodeLimit)
	wantAtPair(t, impl.MaxPairs-1, parsed("f(a)"), parsed("f(a)"), impl.CodeOK)
	wantAtPair(t, impl.MaxPairs-1, parsed("f(a,b,c)"), parsed("f(b,b,c)"), impl.CodeFail)
	wantAtPair(t, impl.MaxPairs-1, parsed("f(a,b,c)"), parsed("f(a,c,c)"), impl.CodeLimit)
	wantAtPair(t, impl.MaxPairs, parsed("f(a,b,c)"), parsed("g(a,b,c)"), impl.CodeFail)
}

func TestUnifyFaultsAheadOfPairs(t *testing.T) {
	left, right := pairsBefore(impl.MaxPairs + 100)
	behind := func(a string, b string) ([]impl.Cell, []impl.Cell) {
		return compTerm("p", parsed(a), listTerm(left...)), compTerm("p", parsed(b), listTerm(right...))
	}
	for ends, want := range map[[2]string]int{
		{"a", "b"}: impl.CodeFail, {"X9", "f(X9)"}: impl.CodeCyclic, {"a", "a"}: impl.CodeLimit, {"X9", "X8"}: impl.CodeLimit,
	} {
		a, b := behind(ends[0], ends[1])
		wantCode(t, fmt.Sprint(ends, " ahead"), a, b, want)
	}
}

func TestUnifyBindingBounds(t *testing.T) {
	a := atomTerm("a")
	for n := impl.MaxBindings - 1; n <= impl.MaxBindings+1; n++ {
		want := impl.CodeOK
		if n > impl.MaxBindings {
			want = impl.CodeLimit
		}
		atoms, vars, others := manyItems(n, a), varsFrom(10, n), varsFrom(impl.MaxVar-n+1, n)
		wantCode(t, fmt.Sprint(n, " bound to atoms"), wideOf(a, vars...), wideOf(a, atoms...), want)
		wantCode(t, fmt.Sprint(n, " bound to variables"), wideOf(a, vars...), wideOf(a, others...), want)
		wantCode(t, fmt.Sprint(n, " bound to one"), wideOf(a, vars...), wideOf(a, manyItems(n, varTerm(0))...), want)
		// The bound is asked for when no pair is left.
		wantCode(t, fmt.Sprint(n, " and a fault"), wideOf(a, vars...), wideOf(atomTerm("b"), atoms...), impl.CodeFail)
		wantCode(t, fmt.Sprint(n, " and a circle"), wideOf(varTerm(0), vars...), wideOf(compTerm("f", varTerm(0)), atoms...), impl.CodeCyclic)
		wantCode(t, fmt.Sprint(n, " and one twice"), wideOf(varTerm(10), vars...), wideOf(a, atoms...), want)
	}
	vars := varsFrom(10, impl.MaxBindings)
	sub, _ := impl.Unify(wideOf(a, vars...), wideOf(a, manyItems(len(vars), a)...))
	for i, b := range sub {
		wantSub(t, "one of many", []impl.Binding{b}, []impl.Binding{bind(10+i, a)})
	}
	if len(sub) != len(vars) {
		t.Errorf("%d bindings", len(sub))
	}
}

// chainTo is as chain, but with a term for its atom.
func chainTo(cells int, end []impl.Cell) []impl.Cell {
	return append(chain(cells)[:cells-1], end...)
}

func TestUnifyCellBounds(t *testing.T) {
	full := chain(impl.MaxCells)
	sub, code := unifies(t, varTerm(1), full)
	if code != impl.CodeOK {
		t.Errorf("%d", code)
	}
	wantSub(t, "a great term", sub, []impl.Binding{bind(1, full)})
	for n := 1998; n <= 2003; n++ {
		want := impl.CodeOK
		if n > impl.MaxCells {
			want = impl.CodeLimit
		}
		// The variable that has so many cells in the end is the first, the last, or one between, and bound first or last.
		for v := range 3 {
			w, rest := (v+1)%3, (v+2)%3
			left := [][]impl.Cell{varTerm(v), chain(n - 1000), varTerm(rest)}
			right := [][]impl.Cell{chainTo(1001, varTerm(w)), varTerm(w), atomTerm("a")}
			wantCode(t, fmt.Sprintf("%d cells of %d", n, v), compTerm("p", left...), compTerm("p", right...), want)
			left[0], left[2], right[0], right[2] = left[2], left[0], right[2], right[0]
			wantCode(t, fmt.Sprintf("%d cells of %d, bound last", n, v), compTerm("p", left...), compTerm("p", right...), want)
		}
		twice := compTerm("f", atomTerm("a"), varTerm(1), varTerm(1))
		if n%2 == 1 {
			twice = compTerm("f", varTerm(1), varTerm(1))
		}
		size := (n - len(twice) + 2) / 2
		wantCode(t, fmt.Sprint(n, " cells, one twice"), compTerm("p", varTerm(0), varTerm(1)), compTerm("p", twice, chain(size)), want)
	}
}

// A term that is too great is told when no pair is left; the two terms may be too great once they are one.
func TestUnifyCellsAndFaults(t *testing.T) {
	half := chain(1001)
	left := func(end string) []impl.Cell { return compTerm("p", varTerm(0), varTerm(1), parsed(end)) }
	right := func(end string) []impl.Cell { return compTerm("p", parsed("f(X1,X1)"), half, parsed(end)) }
	wantCode(t, "no fault", left("a"), right("a"), impl.CodeLimit)
	wantCode(t, "a fault", left("a"), right("b"), impl.CodeFail)
	wantCode(t, "a circle", left("X3"), right("f(X3)"), impl.CodeCyclic)
	sub, code := unifies(t, parsed("p(X1,X1,X1)"), compTerm("p", half, varTerm(2), varTerm(3)))
	if code != impl.CodeOK {
		t.Errorf("great when they are one: %d", code)
	}
	wantSub(t, "great when they are one", sub, []impl.Binding{bind(1, half), bind(2, half), bind(3, half)})
	wantNotApplied(t, "great when they are one", sub, parsed("p(X1,X1,X1)"), impl.CodeLimit)
}

// tower binds n variables from the first on, each to a term with the next one twice.
func tower(first int, n int) (left [][]impl.Cell, right [][]impl.Cell) {
	for i := range n {
		left = append(left, varTerm(first+i))
		right = append(right, compTerm("f", varTerm(first+i+1), varTerm(first+i+1)))
	}
	return left, right
}

func TestUnifyTowers(t *testing.T) {
	for n, want := range map[int]int{8: impl.CodeOK, 9: impl.CodeOK, 10: impl.CodeLimit, 11: impl.CodeLimit, 64: impl.CodeLimit, 399: impl.CodeLimit} {
		left, right := tower(0, n)
		a := atomTerm("a")
		top, ground := varTerm(0), varTerm(n)
		wantCode(t, fmt.Sprint("tower ", n), listTerm(left...), listTerm(right...), want)
		wantCode(t, fmt.Sprint("tower and a fault ", n), listEnding(a, left...), listEnding(atomTerm("b"), right...), impl.CodeFail)
		wantCode(t, fmt.Sprint("circle of a tower ", n), listEnding(ground, left...), listEnding(compTerm("g", top), right...), impl.CodeCyclic)
		wantCode(t, fmt.Sprint("circle at a tower's top ", n), listEnding(compTerm("g", top), left...), listEnding(ground, right...), impl.CodeCyclic)
	}
}

// Two towers are held against each other pair by pair, so that the pairs are too many ahead of all else.
func TestUnifyTwoTowers(t *testing.T) {
	for n, want := range map[int]int{3: impl.CodeFail, 9: impl.CodeFail, 13: impl.CodeFail, 14: impl.CodeLimit, 100: impl.CodeLimit} {
		left, right := tower(0, n)
		moreLeft, moreRight := tower(1000, n)
		left, right = append(left, moreLeft...), append(right, moreRight...)
		left, right = append(left, varTerm(0), atomTerm("a")), append(right, varTerm(1000), atomTerm("b"))
		wantCode(t, fmt.Sprint("two towers ", n), listTerm(left...), listTerm(right...), want)
	}
}
