package tests

import (
	"fmt"
	"slices"
	"testing"

	"loop.example/s00095/impl"
)

// errorCells is how many cells an error term with a culprit has beside this: error, type_error, the kind and the
// indicator of three.
const errorCells = 6

// A fault that names a term has this whole, so that the two together may be too great.
func TestBuiltinGreatCulprits(t *testing.T) {
	for src, kind := range map[string]string{
		"functor(X1, f, culprit)": "integer", "functor(X1, culprit, 0)": "atomic", "functor(X1, culprit, 1)": "atomic", "arg(culprit, f(a), X1)": "integer", "X1 =.. culprit": "list",
		"length(culprit, X1)": "list", "length(X1, culprit)": "integer", "atom_length(culprit, X1)": "atomic", "atom_codes(culprit, X1)": "atomic", "atom_codes(X1, culprit)": "list",
		"atom_chars(culprit, X1)": "atomic", "atom_chars(X1, culprit)": "list", "char_code(culprit, X1)": "character", "char_code(X1, culprit)": "integer", "number_codes(culprit, X1)": "integer",
		"msort(culprit, X1)": "list", "sort(culprit, X1)": "list",
	} {
		for cells := impl.MaxCells - errorCells - 1; cells <= impl.MaxCells; cells++ {
			name, args := withCulprit(src, chain(cells))
			if cells > impl.MaxCells-errorCells {
				wantNothing(t, impl.CodeLimit, name, args...)
				continue
			}
			wantBuiltinFault(t, compTerm("type_error", atomTerm(kind), chain(cells)), name, args...)
		}
	}
}

// withCulprit is a goal in which a term is the argument that the text calls culprit.
func withCulprit(src string, culprit []impl.Cell) (string, [][]impl.Cell) {
	goal := parsed(src)
	args := argTerms(goal)
	for i, arg := range args {
		if showCells(arg) == showCells(atomTerm("culprit")) {
			args[i] = culprit
		}
	}
	return string(goal[0].Text), args
}

// An item of a list that is a culprit leaves less room in its list than in the error term: no limit is broken.
func TestBuiltinGreatItems(t *testing.T) {
	x := varTerm(1)
	item := chain(impl.MaxCells - errorCells)
	wantBuiltinFault(t, compTerm("type_error", atomTerm("character"), item), "atom_chars", x, listTerm(item))
	wantBuiltinFault(t, compTerm("type_error", atomTerm("atomic"), item), "=..", x, listTerm(item))
	wantBuiltinFault(t, compTerm("type_error", atomTerm("atom"), item[2:]), "=..", x, listTerm(item[2:], x))
	wantBuiltinFault(t, parsed(badCode), "atom_codes", x, listTerm(item))
	wantBuiltinFault(t, parsed(badCode), "number_codes", x, listTerm(item))
	greater := chain(impl.MaxCells - 2)
	wantNothing(t, impl.CodeLimit, "atom_chars", x, listTerm(greater))
	wantNothing(t, impl.CodeLimit, "=..", x, listTerm(greater))
	wantBuiltinFault(t, parsed(badCode), "atom_codes", x, listTerm(greater))
}

// The list of a term's parts has as many cells more as it has items, and one.
func TestBuiltinPartsCells(t *testing.T) {
	x := varTerm(1)
	for _, arity := range []int{1, 2, 7, impl.MaxArity} {
		for extra := -2; extra <= 2; extra++ {
			size := impl.MaxCells + extra - (arity + 2)
			args := append(slices.Repeat([][]impl.Cell{atomTerm("a")}, arity-1), chain(size-arity))
			whole := compTerm("f", args...)
			if len(whole) != size {
				t.Fatalf("%d cells", len(whole))
			}
			if extra > 0 {
				wantNothing(t, impl.CodeLimit, "=..", whole, x)
				continue
			}
			wantPair(t, x, listTerm(append([][]impl.Cell{atomTerm("f")}, args...)...), "=..", whole, x)
		}
	}
	wantNothing(t, impl.CodeLimit, "=..", chain(impl.MaxCells), x)
	wantNothing(t, impl.CodeLimit, "=..", chain(impl.MaxCells), atomTerm("a"))
}

// Terms of MaxCells cells are taken and given wherever they are not put into others.
func TestBuiltinGreatestTerms(t *testing.T) {
	x, full, open := varTerm(1), chain(impl.MaxCells), chainTo(impl.MaxCells, varTerm(9))
	wantPair(t, full, full, "=", full, full)
	wantPair(t, full, chainTo(impl.MaxCells, varTerm(firstFresh)), "copy_term", open, full)
	wantPair(t, full, intTerm(3), "is", full, intTerm(3))
	wantPair(t, full, atomTerm("<"), "compare", full, chain(impl.MaxCells-1), full)
	wantPair(t, full, chain(impl.MaxCells-1), "arg", intTerm(1), full, full)
	wantPair(t, full, intTerm(1), "length", listTerm(atomTerm("a")), full)
	wantPair(t, full, codesTerm("7"), "number_codes", intTerm(7), full)
	wantPair(t, full, intTerm(7), "number_codes", full, codesTerm("7"))
	wantEffectOf(t, impl.Effect{Left: [][]impl.Cell{full, open}, Right: [][]impl.Cell{atomTerm("f"), intTerm(1)}}, impl.CodeOK, "functor", full, full, open)
	longest := listTerm(append(manyItems(998, atomTerm("a")), chain(2))...)
	if len(longest) != impl.MaxCells {
		t.Fatalf("%d cells", len(longest))
	}
	wantPair(t, full, longest, "msort", longest, full)
	wantPair(t, full, listTerm(atomTerm("a"), chain(2)), "sort", longest, full)
	wantPair(t, x, intTerm(999), "length", longest, x)
	wantPair(t, x, chain(impl.MaxCells-4), "=..", x, listTerm(manyPartsOf(chain(impl.MaxCells-4))...))
}

// manyPartsOf are the name and the arguments of a compound.
func manyPartsOf(x []impl.Cell) [][]impl.Cell {
	return append([][]impl.Cell{atomTerm(string(x[0].Text))}, argTerms(x)...)
}

// The greatest atoms stand in effects as they are.
func TestBuiltinGreatestAtoms(t *testing.T) {
	name := fmt.Sprintf("%0*d", impl.MaxAtom, 7)
	x := varTerm(1)
	wantPair(t, x, compTerm(name, varTerm(firstFresh)), "functor", x, atomTerm(name), intTerm(1))
	wantPair(t, x, compTerm(name, intTerm(1)), "=..", x, listTerm(atomTerm(name), intTerm(1)))
	wantPair(t, x, listTerm(atomTerm(name), intTerm(1)), "=..", compTerm(name, intTerm(1)), x)
	wantPair(t, x, intTerm(impl.MaxAtom), "atom_length", atomTerm(name), x)
	wantBuiltinFault(t, compTerm("type_error", atomTerm("integer"), atomTerm(name)), "arg", atomTerm(name), x, x)
	wantBuiltinFault(t, notEvaluable(name, 0), "is", x, atomTerm(name))
}
