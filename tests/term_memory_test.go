package tests

import (
	"fmt"
	"testing"

	"loop.example/s00095/impl"
)

func memoryTerms() [][]impl.Cell {
	shared := []byte("text")
	return [][]impl.Cell{
		varTerm(3), intTerm(4), atomTerm("name"), atomTerm(""), compTerm("f", varTerm(5), varTerm(5), atomTerm("x")),
		listTerm(atomTerm("item"), atomTerm("item"), compTerm("f", varTerm(1)), varTerm(1)),
		listTerm(varTerm(2), varTerm(2)), listEnding(varTerm(2), atomTerm("item")),
		{{Kind: impl.TermComp, N: 2, Text: shared}, {Kind: impl.TermAtom, Text: shared}, {Kind: impl.TermAtom, Text: shared}},
		{{Kind: 9, N: 1, Text: shared}}, {{Kind: impl.TermAtom, Text: shared}, {Kind: impl.TermAtom, Text: shared}}, nil,
	}
}

// callTermFunctions answers all that the functions of chapter 2 make of one term.
func callTermFunctions(x []impl.Cell) ([][]impl.Cell, []int) {
	list, _ := impl.MakeList([][]impl.Cell{x, x})
	items, _ := impl.ListItems(x)
	return append([][]impl.Cell{impl.Renumber(x), list}, items...), impl.TermVars(x)
}

func TestTermArgumentsStay(t *testing.T) {
	for _, x := range memoryTerms() {
		arg, untouched := lend(x)
		answers, vars := callTermFunctions(arg)
		impl.ValidTerm(arg)
		impl.CompareTerms(arg, arg)
		impl.CompareTerms(arg, x)
		impl.CompareTerms(x, arg)
		if !untouched() {
			t.Errorf("%s: written into", showCells(x))
		}
		for _, answer := range answers {
			overwriteCells(answer)
		}
		for i := range vars {
			vars[i]++
		}
		if !untouched() {
			t.Errorf("%s: an answer shares its memory", showCells(x))
		}
	}
}

func TestTermArgumentsAreNotKept(t *testing.T) {
	for _, x := range memoryTerms() {
		arg := copyTerm(x)
		answers, vars := callTermFunctions(arg)
		before := showLists(answers) + fmt.Sprint(vars)
		overwriteCells(arg)
		if showLists(answers)+fmt.Sprint(vars) != before {
			t.Errorf("%s: an answer changes with it", showCells(x))
		}
		again, varsAgain := callTermFunctions(x)
		if showLists(again)+fmt.Sprint(varsAgain) != before {
			t.Errorf("%s: another answer the second time", showCells(x))
		}
	}
}

func TestTermAnswersAreUnshared(t *testing.T) {
	for _, x := range memoryTerms() {
		list, _ := impl.MakeList([][]impl.Cell{x, x, x})
		items, _ := impl.ListItems(x)
		wantUnshared(t, "Renumber", [][]impl.Cell{impl.Renumber(x)})
		wantUnshared(t, "MakeList", [][]impl.Cell{list})
		wantUnshared(t, "ListItems", items)
	}
}

func TestMakeListArgumentStays(t *testing.T) {
	a, aStays := lend(compTerm("f", varTerm(1), atomTerm("x")))
	b, bStays := lend(varTerm(1))
	spare := atomTerm("spare")
	room := [][]impl.Cell{a, b, a, spare, spare}
	before := showLists(room)
	list, code := impl.MakeList(room[:3])
	if code != impl.CodeOK {
		t.Errorf("code %d", code)
	}
	overwriteCells(list)
	if showLists(room) != before || !aStays() || !bStays() {
		t.Errorf("the items are written into")
	}
}
