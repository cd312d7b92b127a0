package tests

import (
	"math"
	"slices"
	"strings"
	"testing"

	"loop.example/s00095/impl"
)

func TestTermConstants(t *testing.T) {
	kinds := []int{impl.TermVar, impl.TermInt, impl.TermAtom, impl.TermComp}
	for i, kind := range kinds {
		if kind != i {
			t.Errorf("kind %d is %d", i, kind)
		}
	}
	if impl.MaxArity != 20 || impl.MaxCells != 2000 || impl.MaxVar != 1000000 {
		t.Errorf("limits: %d %d %d", impl.MaxArity, impl.MaxCells, impl.MaxVar)
	}
}

func argsOfCount(n int) [][]impl.Cell {
	var args [][]impl.Cell
	for i := range n {
		args = append(args, intTerm(i))
	}
	return args
}

// wideTerm has n + 1 cells for an n that MaxArity divides: compounds with MaxArity arguments, the last of which goes on.
func wideTerm(n int) []impl.Cell {
	var cells []impl.Cell
	for ; n > 0; n -= impl.MaxArity {
		cells = append(cells, impl.Cell{Kind: impl.TermComp, N: impl.MaxArity, Text: []byte("w")})
		for range impl.MaxArity - 1 {
			cells = append(cells, atomTerm("x")...)
		}
	}
	return append(cells, atomTerm("end")...)
}

func validTerms() [][]impl.Cell {
	longest := strings.Repeat("n", impl.MaxAtom)
	return [][]impl.Cell{
		varTerm(0), varTerm(1), varTerm(impl.MaxVar),
		intTerm(0), intTerm(-1), intTerm(impl.MaxInt), intTerm(-impl.MaxInt),
		atomTerm(""), atomTerm("a"), atomTerm("[]"), atomTerm("any \x00\xff bytes"), atomTerm(longest),
		{{Kind: impl.TermAtom}}, {{Kind: impl.TermVar, Text: []byte{}}}, {{Kind: impl.TermInt, Text: []byte{}}},
		compTerm("f", varTerm(3)), compTerm("", atomTerm("")), compTerm(longest, intTerm(1)),
		compTerm("f", argsOfCount(impl.MaxArity)...),
		compTerm("f", compTerm("g", varTerm(1), varTerm(1)), compTerm("h", compTerm("i", intTerm(1))), atomTerm("z")),
		listTerm(intTerm(1), atomTerm("a")), listEnding(varTerm(2), intTerm(1)),
		chain(impl.MaxCells), wideTerm(impl.MaxCells - impl.MaxArity),
	}
}

func badCells() []impl.Cell {
	tooLong := []byte(strings.Repeat("n", impl.MaxAtom+1))
	return []impl.Cell{
		{Kind: -1}, {Kind: 4}, {Kind: math.MaxInt}, {Kind: math.MinInt}, {Kind: 4, N: 1, Text: []byte("f")},
		{Kind: impl.TermVar, N: -1}, {Kind: impl.TermVar, N: impl.MaxVar + 1}, {Kind: impl.TermVar, N: math.MinInt},
		{Kind: impl.TermVar, Text: []byte("X")}, {Kind: impl.TermVar, N: 1, Text: []byte{0}},
		{Kind: impl.TermInt, N: impl.MaxInt + 1}, {Kind: impl.TermInt, N: -impl.MaxInt - 1},
		{Kind: impl.TermInt, N: math.MaxInt}, {Kind: impl.TermInt, N: math.MinInt}, {Kind: impl.TermInt, Text: []byte("0")},
		{Kind: impl.TermAtom, N: 1, Text: []byte("a")}, {Kind: impl.TermAtom, N: -1, Text: []byte("a")},
		{Kind: impl.TermAtom, Text: tooLong}, {Kind: impl.TermAtom, Text: make([]byte, 50000)},
	}
}

// badTerms are lists of cells that miss being a valid term in one way each.
func badTerms() [][]impl.Cell {
	bad := [][]impl.Cell{
		nil, {},
		slices.Concat(atomTerm("a"), atomTerm("b")), slices.Concat(varTerm(0), varTerm(0)),
		slices.Concat(compTerm("f", intTerm(1)), intTerm(2)), slices.Concat(intTerm(2), compTerm("f", intTerm(1))),
		// As many cells as one term would have, but a whole term ahead of the last.
		slices.Concat(atomTerm("a"), compTerm("f", atomTerm("a"), atomTerm("b"))[:2]),
		slices.Concat(varTerm(0), compTerm("f", varTerm(0), varTerm(1), varTerm(2))[:3]),
		compTerm("f"), {{Kind: impl.TermComp, N: 1, Text: []byte("f")}},
		compTerm("f", atomTerm("a"), atomTerm("b"))[:2], compTerm("f", compTerm("g", atomTerm("b")), intTerm(1))[:3],
		slices.Concat([]impl.Cell{{Kind: impl.TermComp, N: -1, Text: []byte("f")}}, intTerm(1)),
		slices.Concat([]impl.Cell{{Kind: impl.TermComp, N: 0, Text: []byte("f")}}, intTerm(1)),
		{{Kind: impl.TermComp, N: math.MaxInt, Text: []byte("f")}}, {{Kind: impl.TermComp, N: math.MinInt, Text: []byte("f")}},
		compTerm("f", argsOfCount(impl.MaxArity+1)...),
		compTerm(strings.Repeat("n", impl.MaxAtom+1), intTerm(1)),
		chain(impl.MaxCells + 1), wideTerm(impl.MaxCells), make([]impl.Cell, impl.MaxCells+1), make([]impl.Cell, 100000),
	}
	for _, c := range badCells() {
		bad = append(bad, []impl.Cell{c}, compTerm("f", atomTerm("a"), []impl.Cell{c}), compTerm("f", []impl.Cell{c}, atomTerm("a")))
	}
	return bad
}

func TestValidTerms(t *testing.T) {
	for _, x := range validTerms() {
		if !impl.ValidTerm(x) {
			t.Errorf("%.200s: not valid", showCells(x))
		}
	}
	for i, x := range badTerms() {
		if impl.ValidTerm(x) {
			t.Errorf("bad term %d is valid: %.200s", i, showCells(x))
		}
	}
	if n := len(wideTerm(impl.MaxCells)); n != impl.MaxCells+1 {
		t.Fatalf("the wide term has %d cells", n)
	}
}

// Cutting a valid term short, or putting a cell behind it, never leaves a valid one.
func TestValidIsOneTerm(t *testing.T) {
	d := dice(1)
	for range 400 {
		x := randomTerm(&d, 4)
		if !impl.ValidTerm(x) {
			t.Fatalf("%s: not valid", showCells(x))
		}
		for n := range x {
			if impl.ValidTerm(x[:n]) {
				t.Errorf("%s: its first %d cells are valid", showCells(x), n)
			}
		}
		for _, more := range [][]impl.Cell{varTerm(0), atomTerm("a"), compTerm("f", intTerm(1))} {
			if impl.ValidTerm(slices.Concat(x, more)) {
				t.Errorf("%s and %s: valid", showCells(x), showCells(more))
			}
		}
	}
}

func TestBadTermsAnswerNothing(t *testing.T) {
	good := atomTerm("a")
	for i, x := range badTerms() {
		for _, pair := range [][2][]impl.Cell{{x, good}, {good, x}, {x, x}} {
			if order, code := impl.CompareTerms(pair[0], pair[1]); order != 0 || code != impl.CodeBad {
				t.Errorf("bad term %d: compared %d, %d", i, order, code)
			}
		}
		if vars := impl.TermVars(x); len(vars) != 0 {
			t.Errorf("bad term %d: variables %v", i, vars)
		}
		if again := impl.Renumber(x); len(again) != 0 {
			t.Errorf("bad term %d: renumbered %.200s", i, showCells(again))
		}
		if items, code := impl.ListItems(x); len(items) != 0 || code != impl.CodeBad {
			t.Errorf("bad term %d: items %.200s, %d", i, showLists(items), code)
		}
		for _, items := range [][][]impl.Cell{{x}, {good, x}, {x, good}} {
			if list, code := impl.MakeList(items); len(list) != 0 || code != impl.CodeBad {
				t.Errorf("bad term %d: list %.200s, %d", i, showCells(list), code)
			}
		}
	}
}
