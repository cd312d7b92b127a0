package tests

import (
	"fmt"
	"slices"
	"strings"
	"testing"

	"loop.example/s00095/impl"
)

func varTerm(n int) []impl.Cell {
	return []impl.Cell{{Kind: impl.TermVar, N: n}}
}

func intTerm(n int) []impl.Cell {
	return []impl.Cell{{Kind: impl.TermInt, N: n}}
}

func atomTerm(name string) []impl.Cell {
	return []impl.Cell{{Kind: impl.TermAtom, Text: []byte(name)}}
}

func compTerm(name string, args ...[]impl.Cell) []impl.Cell {
	cells := []impl.Cell{{Kind: impl.TermComp, N: len(args), Text: []byte(name)}}
	for _, arg := range args {
		cells = append(cells, copyTerm(arg)...)
	}
	return cells
}

// listTerm is the list of items, made here without a call of the program.
func listTerm(items ...[]impl.Cell) []impl.Cell {
	return listEnding(atomTerm("[]"), items...)
}

func listEnding(end []impl.Cell, items ...[]impl.Cell) []impl.Cell {
	var cells []impl.Cell
	for _, item := range items {
		cells = append(cells, impl.Cell{Kind: impl.TermComp, N: 2, Text: []byte(".")})
		cells = append(cells, copyTerm(item)...)
	}
	return append(cells, copyTerm(end)...)
}

// chain has so many cells: compounds of one argument, and an atom at the end.
func chain(cells int) []impl.Cell {
	var t []impl.Cell
	for len(t) < cells-1 {
		t = append(t, impl.Cell{Kind: impl.TermComp, N: 1, Text: []byte("f")})
	}
	return append(t, atomTerm("a")...)
}

func copyTerm(t []impl.Cell) []impl.Cell {
	out := make([]impl.Cell, len(t))
	for i, c := range t {
		out[i] = impl.Cell{Kind: c.Kind, N: c.N, Text: slices.Clone(c.Text)}
	}
	return out
}

// showCells tells all that cells hold, of valid terms and of others.
func showCells(t []impl.Cell) string {
	kinds := [...]string{"var", "int", "atom", "comp"}
	var out []string
	for _, c := range t {
		kind := fmt.Sprint(c.Kind)
		if c.Kind >= 0 && c.Kind < len(kinds) {
			kind = kinds[c.Kind]
		}
		out = append(out, fmt.Sprintf("%s:%d:%q", kind, c.N, c.Text))
	}
	return strings.Join(out, " ")
}

func showLists(lists [][]impl.Cell) string {
	var out []string
	for _, t := range lists {
		out = append(out, "["+showCells(t)+"]")
	}
	return strings.Join(out, " ")
}

func wantCells(t *testing.T, what string, got []impl.Cell, want []impl.Cell) {
	t.Helper()
	if showCells(got) != showCells(want) {
		t.Errorf("%.200s:\n got %.400s\nwant %.400s", what, showCells(got), showCells(want))
	}
}

// lend lays a term's cells and texts amid spare ones, and answers a check that none of them was written into.
func lend(t []impl.Cell) ([]impl.Cell, func() bool) {
	spare := impl.Cell{Kind: 77, N: 78, Text: []byte("spare")}
	var checks []func() bool
	all := []impl.Cell{spare}
	for _, c := range t {
		text, check := roomy(string(c.Text))
		checks = append(checks, check)
		all = append(all, impl.Cell{Kind: c.Kind, N: c.N, Text: text})
	}
	all = append(all, spare, spare)
	before := showCells(all)
	return all[1 : len(t)+1], func() bool {
		for _, check := range checks {
			if !check() {
				return false
			}
		}
		return showCells(all) == before
	}
}

// overwriteCells turns all that cells hold, the spare ones too.
func overwriteCells(t []impl.Cell) {
	t = t[:cap(t)]
	for i := range t {
		overwrite(t[i].Text)
		t[i].Kind, t[i].N = t[i].Kind+50, t[i].N+50
	}
}

// wantUnshared overwrites the texts and the lists of an answer, one after the other, and asks that no other changes.
func wantUnshared(t *testing.T, what string, answer [][]impl.Cell) {
	t.Helper()
	for i := range answer {
		for k := range answer[i] {
			expected := copyLists(answer)
			overwrite(expected[i][k].Text)
			text := answer[i][k].Text
			overwrite(text)
			if showLists(answer) != showLists(expected) {
				t.Errorf("%s: the text of cell %d of list %d is shared", what, k, i)
				return
			}
		}
	}
	for i := range answer {
		expected := copyLists(answer)
		overwriteCells(expected[i])
		overwriteCells(answer[i])
		if showLists(answer) != showLists(expected) {
			t.Errorf("%s: list %d is shared", what, i)
			return
		}
	}
}

func copyLists(lists [][]impl.Cell) [][]impl.Cell {
	var out [][]impl.Cell
	for _, t := range lists {
		out = append(out, copyTerm(t))
	}
	return out
}

// randomTerm has at most depth compounds within each other, and names and variables that come again and again.
func randomTerm(d *dice, depth int) []impl.Cell {
	names := []string{"a", "b", "aa", "", ".", "[]", "f", "\x00", "\xff", "Z"}
	numbers := []int{0, 1, -1, 7, impl.MaxInt, -impl.MaxInt}
	vars := []int{0, 1, 2, 9, impl.MaxVar}
	kind := d.below(4)
	if depth == 0 {
		kind = d.below(3)
	}
	switch kind {
	case impl.TermVar:
		return varTerm(vars[d.below(len(vars))])
	case impl.TermInt:
		return intTerm(numbers[d.below(len(numbers))])
	case impl.TermAtom:
		return atomTerm(names[d.below(len(names))])
	}
	var args [][]impl.Cell
	for range 1 + d.below(3) {
		args = append(args, randomTerm(d, depth-1))
	}
	return compTerm(names[d.below(len(names))], args...)
}
