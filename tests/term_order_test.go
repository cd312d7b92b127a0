package tests

import (
	"fmt"
	"slices"
	"strings"
	"testing"

	"loop.example/s00095/impl"
)

// wantOrder asks that the terms stand in ascending order, each against each, both ways round.
func wantOrder(t *testing.T, terms [][]impl.Cell) {
	t.Helper()
	for i, a := range terms {
		for k, b := range terms {
			want := 0
			if i < k {
				want = -1
			} else if i > k {
				want = 1
			}
			if got, code := impl.CompareTerms(a, b); got != want || code != impl.CodeOK {
				t.Errorf("%.200s against %.200s: %d, %d, want %d", showCells(a), showCells(b), got, code, want)
			}
		}
	}
}

func TestOrderByKinds(t *testing.T) {
	wantOrder(t, [][]impl.Cell{varTerm(impl.MaxVar), intTerm(-impl.MaxInt), atomTerm(""), compTerm("", varTerm(0))})
	wantOrder(t, [][]impl.Cell{varTerm(0), intTerm(0), atomTerm("0"), compTerm("0", varTerm(0))})
	wantOrder(t, [][]impl.Cell{varTerm(5), intTerm(impl.MaxInt), atomTerm(strings.Repeat("\xff", impl.MaxAtom)), compTerm("", varTerm(0))})
}

func TestOrderOfVariablesAndNumbers(t *testing.T) {
	wantOrder(t, [][]impl.Cell{varTerm(0), varTerm(1), varTerm(2), varTerm(9), varTerm(10), varTerm(impl.MaxVar - 1), varTerm(impl.MaxVar)})
	wantOrder(t, [][]impl.Cell{intTerm(-impl.MaxInt), intTerm(-impl.MaxInt + 1), intTerm(-10), intTerm(-9), intTerm(-1), intTerm(0),
		intTerm(1), intTerm(9), intTerm(10), intTerm(impl.MaxInt - 1), intTerm(impl.MaxInt)})
}

func TestOrderOfAtoms(t *testing.T) {
	long := strings.Repeat("m", impl.MaxAtom-1)
	names := []string{"", "\x00", "\x00\x00", "\x00a", " ", "A", "Z", "[]", "_", "a", "a\x00", "aa", "aaa", "ab", "b", "ba",
		long, long + "a", long + "b", "n", "\x7f", "\x80", "\xc3\xa9", "\xff", "\xff\x00"}
	var atoms [][]impl.Cell
	for _, name := range names {
		atoms = append(atoms, atomTerm(name))
	}
	wantOrder(t, atoms)
}

func TestOrderOfCompounds(t *testing.T) {
	// Arity counts before the name, the name before the arguments, an argument before those behind it.
	wantOrder(t, [][]impl.Cell{
		compTerm("z", varTerm(1)), compTerm("z", compTerm("z", varTerm(0))), compTerm("zz", varTerm(0)),
		compTerm("", compTerm("a", intTerm(9), intTerm(9)), atomTerm("z")),
		compTerm("a", varTerm(0), atomTerm("z")), compTerm("a", intTerm(1), varTerm(9)), compTerm("a", intTerm(1), intTerm(2)),
		compTerm("a", intTerm(1), intTerm(3)), compTerm("a", intTerm(2), intTerm(1)), compTerm("a", atomTerm("a"), intTerm(0)),
		compTerm("a", compTerm("a", intTerm(0)), intTerm(0)), compTerm("a", compTerm("a", intTerm(0), intTerm(0)), intTerm(0)),
		compTerm("b", varTerm(0), varTerm(0)),
		compTerm("A", varTerm(0), varTerm(0), varTerm(0)),
		compTerm("A", argsOfCount(impl.MaxArity-1)...), compTerm("A", argsOfCount(impl.MaxArity)...),
	})
}

// The names [] and . have no place of their own: lists are compounds and an atom like others.
func TestOrderOfLists(t *testing.T) {
	wantOrder(t, [][]impl.Cell{atomTerm("["), listTerm(), atomTerm("a"), compTerm(".", intTerm(1)), compTerm("a", intTerm(1)),
		listEnding(varTerm(0), intTerm(1)), listEnding(intTerm(1), intTerm(1)), listTerm(intTerm(1)), listTerm(intTerm(1), intTerm(0)),
		listTerm(intTerm(2)), compTerm("a", intTerm(1), intTerm(1))})
}

func TestOrderOfGreatTerms(t *testing.T) {
	deep, deeper := chain(impl.MaxCells-1), chain(impl.MaxCells)
	last := copyTerm(deeper)
	last[len(last)-1].Text = []byte("b")
	// Where the shorter chain has its atom, the longer one has a compound.
	wantOrder(t, [][]impl.Cell{deep, deeper})
	wantOrder(t, [][]impl.Cell{deep, last})
	wantOrder(t, [][]impl.Cell{deeper, last})
	wide := wideTerm(impl.MaxCells - impl.MaxArity)
	other := copyTerm(wide)
	other[len(other)-1].Text = []byte("ene")
	wantOrder(t, [][]impl.Cell{wide, other})
}

// node is a term as a tree, read by the words of chapter 2.
type node struct {
	kind int
	n    int
	text string
	args []node
}

func readNode(cells []impl.Cell) (node, []impl.Cell) {
	x := node{kind: cells[0].Kind, n: cells[0].N, text: string(cells[0].Text)}
	cells = cells[1:]
	if x.kind == impl.TermComp {
		for range x.n {
			var arg node
			arg, cells = readNode(cells)
			x.args = append(x.args, arg)
		}
	}
	return x, cells
}

func compareNodes(a node, b node) int {
	sign := func(less bool) int {
		if less {
			return -1
		}
		return 1
	}
	switch {
	case a.kind != b.kind:
		return sign(a.kind < b.kind)
	case a.n != b.n: // the number of a variable, the value, or the arity; 0 for every atom
		return sign(a.n < b.n)
	case a.text != b.text:
		return sign(a.text < b.text)
	}
	for i := range a.args {
		if c := compareNodes(a.args[i], b.args[i]); c != 0 {
			return c
		}
	}
	return 0
}

// smallTerms are all terms over some leaves and names with at most two arguments, and some with more within.
func smallTerms() [][]impl.Cell {
	leaves := [][]impl.Cell{varTerm(0), varTerm(1), intTerm(-1), intTerm(0), atomTerm(""), atomTerm("a"), atomTerm("aa"), atomTerm("b")}
	terms := slices.Clone(leaves)
	for _, name := range []string{"", "a", "b"} {
		for _, x := range leaves {
			terms = append(terms, compTerm(name, x), compTerm(name, compTerm("a", x)), compTerm("b", compTerm(name, x, x)))
			for _, y := range leaves {
				terms = append(terms, compTerm(name, x, y))
			}
			terms = append(terms, compTerm(name, compTerm("a", x), x), compTerm(name, x, compTerm("a", x)), compTerm(name, x, x, x))
		}
	}
	return terms
}

// If every two terms stand to each other as their places in one row, then CompareTerms is an order of them.
func TestOrderOfSmallTerms(t *testing.T) {
	terms := smallTerms()
	slices.SortFunc(terms, func(a, b []impl.Cell) int {
		x, _ := readNode(a)
		y, _ := readNode(b)
		return compareNodes(x, y)
	})
	terms = slices.CompactFunc(terms, func(a, b []impl.Cell) bool { return showCells(a) == showCells(b) })
	wantOrder(t, terms)
}

func TestOrderOfRandomTerms(t *testing.T) {
	d := dice(2)
	for range 20000 {
		a := randomTerm(&d, 3)
		b := randomTerm(&d, 3)
		if d.below(2) == 0 {
			b = changedTerm(&d, a)
		}
		x, _ := readNode(a)
		y, _ := readNode(b)
		want := compareNodes(x, y)
		got, code := impl.CompareTerms(a, b)
		back, _ := impl.CompareTerms(b, a)
		if got != want || back != -want || code != impl.CodeOK {
			t.Fatalf("%s against %s: %d, back %d, want %d", showCells(a), showCells(b), got, back, want)
		}
	}
}

// changedTerm differs from a term in one cell at most.
func changedTerm(d *dice, t []impl.Cell) []impl.Cell {
	out := copyTerm(t)
	at := d.below(len(out))
	switch c := &out[at]; c.Kind {
	case impl.TermVar:
		c.N = d.below(4)
	case impl.TermInt:
		c.N = d.below(4) - 2
	default:
		c.Text = []byte(fmt.Sprint(d.below(3)))
	}
	return out
}

func TestOrderWithItself(t *testing.T) {
	for _, x := range validTerms() {
		if got, code := impl.CompareTerms(x, x); got != 0 || code != impl.CodeOK {
			t.Errorf("%.200s against itself: %d, %d", showCells(x), got, code)
		}
		if got, code := impl.CompareTerms(x, copyTerm(x)); got != 0 || code != impl.CodeOK {
			t.Errorf("%.200s against a copy: %d, %d", showCells(x), got, code)
		}
	}
	// An empty Text and none are the same.
	if got, code := impl.CompareTerms([]impl.Cell{{Kind: impl.TermAtom}}, atomTerm("")); got != 0 || code != impl.CodeOK {
		t.Errorf("nil against the empty text: %d, %d", got, code)
	}
}
