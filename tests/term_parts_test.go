package tests

import (
	"fmt"
	"slices"
	"testing"

	"loop.example/s00095/impl"
)

func TestTermVariables(t *testing.T) {
	top := impl.MaxVar
	cases := []struct {
		term []impl.Cell
		vars []int
	}{
		{varTerm(0), []int{0}}, {varTerm(top), []int{top}}, {intTerm(3), nil}, {atomTerm("X"), nil}, {compTerm("f", intTerm(0)), nil},
		{compTerm("f", varTerm(4), varTerm(4)), []int{4}},
		{compTerm("f", varTerm(9), varTerm(0), varTerm(9), varTerm(top), varTerm(0)), []int{9, 0, top}},
		{compTerm("f", compTerm("g", compTerm("h", varTerm(3)), varTerm(1)), varTerm(2), varTerm(1), varTerm(3)), []int{3, 1, 2}},
		{listEnding(varTerm(1), varTerm(2), varTerm(1), varTerm(0)), []int{2, 1, 0}},
		{compTerm("0", intTerm(0), varTerm(1), intTerm(1)), []int{1}},
	}
	for _, c := range cases {
		if got := impl.TermVars(c.term); fmt.Sprint(got) != fmt.Sprint(c.vars) {
			t.Errorf("%s: %v, want %v", showCells(c.term), got, c.vars)
		}
	}
}

// manyVars holds n variables, the numbers falling by step from start on.
func manyVars(n int, start int, step int) []impl.Cell {
	var items [][]impl.Cell
	for i := range n {
		items = append(items, varTerm(start-i*step))
	}
	return listTerm(items...)
}

func TestTermsOfManyVariables(t *testing.T) {
	x := manyVars(999, impl.MaxVar, 1000)
	vars := impl.TermVars(x)
	if len(vars) != 999 || vars[0] != impl.MaxVar || vars[998] != impl.MaxVar-998000 {
		t.Errorf("%d variables: %.100v", len(vars), vars)
	}
	wantCells(t, "many variables renumbered", impl.Renumber(x), manyVars(999, 0, -1))
}

func TestRenumberTerms(t *testing.T) {
	cases := [][2][]impl.Cell{
		{varTerm(0), varTerm(0)}, {varTerm(impl.MaxVar), varTerm(0)}, {intTerm(-impl.MaxInt), intTerm(-impl.MaxInt)},
		{atomTerm(""), atomTerm("")}, {atomTerm("\x00\xff"), atomTerm("\x00\xff")},
		{compTerm("f", varTerm(1), varTerm(0)), compTerm("f", varTerm(0), varTerm(1))},
		{compTerm("f", varTerm(2), varTerm(0), varTerm(1)), compTerm("f", varTerm(0), varTerm(1), varTerm(2))},
		{compTerm("f", varTerm(7), intTerm(7), varTerm(7)), compTerm("f", varTerm(0), intTerm(7), varTerm(0))},
		{compTerm("f", compTerm("g", varTerm(8), varTerm(3)), varTerm(8), compTerm("", varTerm(5)), varTerm(3)),
			compTerm("f", compTerm("g", varTerm(0), varTerm(1)), varTerm(0), compTerm("", varTerm(2)), varTerm(1))},
	}
	for _, c := range cases {
		wantCells(t, showCells(c[0]), impl.Renumber(c[0]), c[1])
	}
}

// differAsVariants tells where two lists of cells do not differ by a one-to-one relation of variables alone.
func differAsVariants(a []impl.Cell, b []impl.Cell) string {
	if len(a) != len(b) {
		return "numbers of cells"
	}
	there, back := map[int]int{}, map[int]int{}
	for i := range a {
		if a[i].Kind == impl.TermVar && b[i].Kind == impl.TermVar {
			if to, ok := there[a[i].N]; ok && to != b[i].N {
				return fmt.Sprintf("variable at cell %d", i)
			}
			if to, ok := back[b[i].N]; ok && to != a[i].N {
				return fmt.Sprintf("variable at cell %d", i)
			}
			there[a[i].N], back[b[i].N] = b[i].N, a[i].N
		} else if showCells(a[i:i+1]) != showCells(b[i:i+1]) {
			return fmt.Sprintf("cell %d", i)
		}
	}
	return ""
}

func TestRenumberIsVariant(t *testing.T) {
	d := dice(3)
	terms := validTerms()
	for range 3000 {
		terms = append(terms, randomTerm(&d, 4))
	}
	for _, x := range terms {
		again := impl.Renumber(x)
		if where := differAsVariants(x, again); where != "" {
			t.Fatalf("%s renumbered is %s: no variant, by the %s", showCells(x), showCells(again), where)
		}
		for i, v := range impl.TermVars(again) {
			if i != v {
				t.Fatalf("%s renumbered has the variables %v", showCells(x), impl.TermVars(again))
			}
		}
		if len(impl.TermVars(x)) != len(impl.TermVars(again)) {
			t.Fatalf("%s renumbered has the variables %v", showCells(x), impl.TermVars(again))
		}
		wantCells(t, "renumbered twice", impl.Renumber(again), again)
	}
}

func TestMakeLists(t *testing.T) {
	shared := compTerm("f", varTerm(3), varTerm(9))
	cases := [][][]impl.Cell{
		nil, {}, {intTerm(1)}, {intTerm(1), intTerm(1)}, {atomTerm("[]")}, {listTerm()}, {listTerm(), listTerm(listTerm(intTerm(1)))},
		{varTerm(3), shared, varTerm(3), shared}, {varTerm(impl.MaxVar), varTerm(0)},
		{atomTerm(""), compTerm(".", intTerm(1), intTerm(2)), compTerm(".", intTerm(1))},
	}
	for _, items := range cases {
		list, code := impl.MakeList(items)
		if code != impl.CodeOK {
			t.Errorf("%s: code %d", showLists(items), code)
		}
		wantCells(t, showLists(items), list, listTerm(items...))
	}
}

func manyItems(n int, item []impl.Cell) [][]impl.Cell {
	return slices.Repeat([][]impl.Cell{item}, n)
}

func TestMakeListBounds(t *testing.T) {
	one, bad := intTerm(7), atomTerm("a")[:0]
	cases := []struct {
		what  string
		items [][]impl.Cell
		code  int
	}{
		{"1999 cells", manyItems(999, one), impl.CodeOK},
		{"2000 cells", append(manyItems(998, one), chain(2)), impl.CodeOK},
		{"2001 cells", append(manyItems(998, one), chain(3)), impl.CodeLimit},
		{"2000 cells, one item", [][]impl.Cell{chain(impl.MaxCells - 2)}, impl.CodeOK},
		{"2001 cells, one item", [][]impl.Cell{chain(impl.MaxCells - 1)}, impl.CodeLimit},
		{"one item of 2000 cells", [][]impl.Cell{chain(impl.MaxCells)}, impl.CodeLimit},
		{"one item of 2001 cells", [][]impl.Cell{chain(impl.MaxCells + 1)}, impl.CodeBad},
		{"1000 items", manyItems(1000, one), impl.CodeLimit},
		{"2000 items", manyItems(impl.MaxCells, one), impl.CodeLimit},
		{"2000 great items", manyItems(impl.MaxCells, chain(impl.MaxCells)), impl.CodeLimit},
		{"2001 items", manyItems(impl.MaxCells+1, one), impl.CodeBad},
		{"many items", manyItems(500000, one), impl.CodeBad},
		{"2000 items, the last not valid", append(manyItems(impl.MaxCells-1, one), bad), impl.CodeBad},
		{"1000 items, the first not valid", append([][]impl.Cell{bad}, manyItems(999, one)...), impl.CodeBad},
		{"one item, not valid", [][]impl.Cell{nil}, impl.CodeBad},
	}
	for _, c := range cases {
		list, code := impl.MakeList(c.items)
		if code != c.code {
			t.Errorf("%s: code %d, want %d", c.what, code, c.code)
		}
		if code == impl.CodeOK {
			wantCells(t, c.what, list, listTerm(c.items...))
		} else if len(list) != 0 {
			t.Errorf("%s: a list of %d cells beside code %d", c.what, len(list), code)
		}
	}
}

func TestItemsUndoMakeList(t *testing.T) {
	d := dice(4)
	for n := range 300 {
		var items [][]impl.Cell
		for range n % 20 {
			items = append(items, randomTerm(&d, 3))
		}
		list, code := impl.MakeList(items)
		if code != impl.CodeOK {
			t.Fatalf("%s: code %d", showLists(items), code)
		}
		wantItems(t, list, items)
	}
	for _, items := range [][][]impl.Cell{manyItems(999, varTerm(5)), {chain(impl.MaxCells - 2)}, nil} {
		list, _ := impl.MakeList(items)
		wantItems(t, list, items)
	}
}

func wantItems(t *testing.T, list []impl.Cell, want [][]impl.Cell) {
	t.Helper()
	items, code := impl.ListItems(list)
	if code != impl.CodeOK || len(items) != len(want) || showLists(items) != showLists(want) {
		t.Errorf("%.200s: code %d, %d items:\n got %.400s\nwant %.400s", showCells(list), code, len(items), showLists(items), showLists(want))
	}
}

func TestItemsOfLists(t *testing.T) {
	wantItems(t, listTerm(), nil)
	wantItems(t, listTerm(listTerm()), [][]impl.Cell{listTerm()})
	wantItems(t, listTerm(varTerm(1), listTerm(varTerm(1), intTerm(2)), varTerm(1)),
		[][]impl.Cell{varTerm(1), listTerm(varTerm(1), intTerm(2)), varTerm(1)})
	// What stands within an item need be no list.
	wantItems(t, listTerm(listEnding(varTerm(0), intTerm(1))), [][]impl.Cell{listEnding(varTerm(0), intTerm(1))})
}

func TestItemsOfOtherTerms(t *testing.T) {
	others := [][]impl.Cell{
		varTerm(0), intTerm(0), atomTerm(""), atomTerm("."), atomTerm("{}"), atomTerm("[] "), atomTerm("["),
		compTerm("[]", listTerm()), compTerm(".", intTerm(1)), compTerm(".", intTerm(1), listTerm(), listTerm()),
		compTerm("..", intTerm(1), listTerm()), compTerm("", intTerm(1), listTerm()), compTerm("[]", intTerm(1), listTerm()),
		listEnding(varTerm(0), intTerm(1)), listEnding(intTerm(2), intTerm(1)), listEnding(atomTerm("nil"), intTerm(1), intTerm(2)),
		listEnding(compTerm("f", listTerm()), intTerm(1)), listEnding(compTerm(".", listTerm()), intTerm(1)),
		listEnding(varTerm(3), manyItems(990, intTerm(1))...),
	}
	for _, x := range others {
		if items, code := impl.ListItems(x); code != impl.CodeFail || len(items) != 0 {
			t.Errorf("%.200s: code %d, items %.200s", showCells(x), code, showLists(items))
		}
	}
}
