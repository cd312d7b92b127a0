package tests

import (
	"slices"
	"testing"

	"loop.example/s00095/impl"
)

func TestBuiltinSortKinds(t *testing.T) {
	wantEffects(t, map[string]string{
		"msort([], X1)": "X1 <- []", "sort([], X1)": "X1 <- []", "msort([a], X1)": "X1 <- [a]", "sort([a,a,a], X1)": "X1 <- [a]", "msort([a,a,a], X1)": "X1 <- [a,a,a]",
		"msort([b,a,1,a], X1)": "X1 <- [1,a,a,b]", "sort([b,a,1,a], X1)": "X1 <- [1,a,b]", "msort([3,-1,2,-10], X1)": "X1 <- [-10,-1,2,3]", "sort([3,-1,2,-1,3], X1)": "X1 <- [-1,2,3]",
		"sort([f(b),f(a),g,f,1,f(a,a),[],[z],f(b)], X1)": "X1 <- [1,[],f,g,f(a),f(b),[z],f(a,a)]", "msort([[b],[a,c],[a],[]], X1)": "X1 <- [[],[a],[a,c],[b]]", "msort([aa,b,a,ab,''], X1)": "X1 <- ['',a,aa,ab,b]",
		// What S is is not looked at.
		"msort([b,a], c)": "c <- [a,b]", "sort([b,a], [b,a])": "[b,a] <- [a,b]", "sort([b,a], [X1|X2])": "[X1|X2] <- [a,b]", "msort([b,a], f(X1))": "f(X1) <- [a,b]",
	})
}

// Variables have their numbers by where they stand first in L, and keep their own in what is answered.
func TestBuiltinSortVariables(t *testing.T) {
	wantEffects(t, map[string]string{
		"msort([X5,X3], X1)": "X1 <- [X5,X3]", "msort([X3,X5], X1)": "X1 <- [X3,X5]", "sort([X5,X3,b,X5,a], X1)": "X1 <- [X5,X3,a,b]", "msort([X5,X3,b,X5,a], X1)": "X1 <- [X5,X5,X3,a,b]", "sort([a,X9,1,X2,X9,X2], X1)": "X1 <- [X9,X2,1,a]",
		"msort([f(X2,X9),f(X9,X2),X9], X1)": "X1 <- [X9,f(X2,X9),f(X9,X2)]", "msort([f(X9),X2,f(X2)], X1)": "X1 <- [X2,f(X9),f(X2)]", "msort([g(X9,X2),X2,X9], X1)": "X1 <- [X9,X2,g(X9,X2)]",
		"sort([f(X4),f(X3),f(X4)], X1)": "X1 <- [f(X4),f(X3)]", "sort([f(X4,X3),f(X3,X4),f(X4,X4)], X1)": "X1 <- [f(X4,X4),f(X4,X3),f(X3,X4)]", "sort([X1,X1,X1], X1)": "X1 <- [X1]", "msort([X1000000,X0], X1)": "X1 <- [X1000000,X0]",
		// The variables of S play no part.
		"msort([X5,X3], f(X3,X5))": "f(X3,X5) <- [X5,X3]", "sort([f(X5),f(X3)], [X3])": "[X3] <- [f(X5),f(X3)]",
	})
}

func TestBuiltinSortFaults(t *testing.T) {
	for _, name := range []string{"msort", "sort"} {
		for args, fault := range map[string]string{
			"X1, X2": instantiation, "X1, X1": instantiation, "[a|X1], X2": instantiation, "[b,a|X1], X1": instantiation, "[X1,X2|X3], a": instantiation, "X1, a": instantiation,
			"a, X1": "type_error(list,a)", "7, X1": "type_error(list,7)", "f(X1), X1": "type_error(list,f(X1))", "[a|b], X1": "type_error(list,[a|b])", "[b,a|7], a": "type_error(list,[b,a|7])", "[X1|b], X1": "type_error(list,[X1|b])",
			"'.'(a), X1": "type_error(list,'.'(a))", "'.'(a,[],[]), X1": "type_error(list,'.'(a,[],[]))", "{}, []": "type_error(list,{})",
		} {
			wantEffects(t, map[string]string{name + "(" + args + ")": "fault " + fault})
		}
	}
}

// sortedByHand takes out, again and again, the first of the items that no other comes before.
func sortedByHand(t *testing.T, items [][]impl.Cell, isOnce bool) [][]impl.Cell {
	t.Helper()
	numbers := map[int]int{}
	for _, v := range impl.TermVars(listTerm(items...)) {
		numbers[v] = len(numbers)
	}
	numbered := func(x []impl.Cell) []impl.Cell {
		y := copyTerm(x)
		for i, c := range y {
			if c.Kind == impl.TermVar {
				y[i].N = numbers[c.N]
			}
		}
		return y
	}
	var out [][]impl.Cell
	left := slices.Clone(items)
	for len(left) > 0 {
		first := 0
		for i := range left {
			if order, code := impl.CompareTerms(numbered(left[i]), numbered(left[first])); code != impl.CodeOK {
				t.Fatalf("%d", code)
			} else if order < 0 {
				first = i
			}
		}
		if !isOnce || len(out) == 0 || showCells(out[len(out)-1]) != showCells(left[first]) {
			out = append(out, left[first])
		}
		left = slices.Delete(left, first, first+1)
	}
	return out
}

func TestBuiltinSortAnyItems(t *testing.T) {
	d := dice(72)
	for range 1500 {
		var items [][]impl.Cell
		for range d.below(12) {
			if len(items) > 0 && d.below(4) == 0 {
				items = append(items, items[d.below(len(items))])
				continue
			}
			items = append(items, randomTerm(&d, d.below(3)))
		}
		wantPair(t, varTerm(4), listTerm(sortedByHand(t, items, false)...), "msort", listTerm(items...), varTerm(4))
		wantPair(t, varTerm(4), listTerm(sortedByHand(t, items, true)...), "sort", listTerm(items...), varTerm(4))
	}
}

func TestBuiltinSortGreatLists(t *testing.T) {
	d := dice(73)
	var items [][]impl.Cell
	for range 999 {
		items = append(items, intTerm(d.below(400)))
	}
	wantPair(t, varTerm(1), listTerm(sortedByHand(t, items, false)...), "msort", listTerm(items...), varTerm(1))
	wantPair(t, varTerm(1), listTerm(sortedByHand(t, items, true)...), "sort", listTerm(items...), varTerm(1))
	vars := varsFrom(100, 999)
	slices.Reverse(vars)
	wantPair(t, varTerm(1), listTerm(vars...), "sort", listTerm(vars...), varTerm(1))
	wantPair(t, varTerm(1), listTerm(vars...), "msort", listTerm(vars...), varTerm(1))
	// Deep items that differ in their last cell alone.
	deep := [][]impl.Cell{chainTo(600, atomTerm("c")), chainTo(600, atomTerm("a")), chainTo(600, atomTerm("b"))}
	wantPair(t, varTerm(1), listTerm(deep[1], deep[2], deep[0]), "sort", listTerm(deep...), varTerm(1))
}
