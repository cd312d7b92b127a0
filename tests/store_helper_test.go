package tests

import (
	"fmt"
	"slices"
	"strconv"
	"strings"
	"testing"

	"loop.example/s00095/impl"
)

func refWord(address int) impl.Cell {
	return impl.Cell{Kind: impl.WordRef, N: address}
}

func structWord(address int) impl.Cell {
	return impl.Cell{Kind: impl.WordStruct, N: address}
}

func intWord(n int) impl.Cell {
	return impl.Cell{Kind: impl.WordInt, N: n}
}

func atomWord(name string) impl.Cell {
	return impl.Cell{Kind: impl.WordAtom, Text: []byte(name)}
}

func functorWord(name string, arity int) impl.Cell {
	return impl.Cell{Kind: impl.WordFunctor, N: arity, Text: []byte(name)}
}

// storeWord reads @3 as a WordRef, &3 as a WordStruct, f/3 as a WordFunctor, 3 as a number, and all else as an atom.
func storeWord(text string) impl.Cell {
	if n, err := strconv.Atoi(text); err == nil {
		return intWord(n)
	}
	if n, err := strconv.Atoi(text[1:]); err == nil && text[0] == '@' {
		return refWord(n)
	}
	if n, err := strconv.Atoi(text[1:]); err == nil && text[0] == '&' {
		return structWord(n)
	}
	if name, arity, isFunctor := strings.Cut(text, "/"); isFunctor {
		return functorWord(name, numberBehind(arity, ""))
	}
	return atomWord(text)
}

// storeOf reads words, and behind a | the addresses of the trail.
func storeOf(text string) impl.Store {
	var s impl.Store
	words, trail, _ := strings.Cut(text, "|")
	for _, word := range strings.Fields(words) {
		s.Cells = append(s.Cells, storeWord(word))
	}
	for _, address := range strings.Fields(trail) {
		s.Trail = append(s.Trail, numberBehind(address, ""))
	}
	return s
}

// showWord tells all that a cell holds: as storeWord reads it, if that is all.
func showWord(c impl.Cell) string {
	short := string(c.Text)
	switch c.Kind {
	case impl.WordRef:
		short = fmt.Sprintf("@%d", c.N)
	case impl.WordInt:
		short = fmt.Sprint(c.N)
	case impl.WordFunctor:
		short = fmt.Sprintf("%s/%d", c.Text, c.N)
	case impl.WordStruct:
		short = fmt.Sprintf("&%d", c.N)
	}
	if back := storeWord(short + " "[:1-min(1, len(short))]); back.Kind == c.Kind && back.N == c.N && string(back.Text) == string(c.Text) {
		return short
	}
	return fmt.Sprintf("{%d:%d:%q}", c.Kind, c.N, c.Text)
}

func showWords(cells []impl.Cell) string {
	var out []string
	for _, c := range cells {
		out = append(out, showWord(c))
	}
	return strings.Join(out, " ")
}

func showStore(s impl.Store) string {
	out := showWords(s.Cells)
	if len(s.Trail) > 0 {
		out += " |" + strings.Trim(fmt.Sprint(s.Trail), "[]")
	}
	return out
}

func copyStore(s impl.Store) impl.Store {
	return impl.Store{Cells: copyTerm(s.Cells), Trail: slices.Clone(s.Trail)}
}

func isZeroStore(s impl.Store) bool {
	return len(s.Cells) == 0 && len(s.Trail) == 0
}

// manyWords are words of a rule by their addresses.
func manyWords(n int, word func(at int) impl.Cell) []impl.Cell {
	cells := make([]impl.Cell, n)
	for i := range cells {
		cells[i] = word(i)
	}
	return cells
}

// unbound are so many variables.
func unbound(n int) []impl.Cell {
	return manyWords(n, refWord)
}

// referring are so many WordRefs, each to the next, the last one to the address behind them.
func referring(n int) []impl.Cell {
	return manyWords(n, func(at int) impl.Cell { return refWord(at + 1) })
}

// trailTo is a trail of so many times one address.
func trailTo(address int, n int) []int {
	return slices.Repeat([]int{address}, n)
}

// doubled are so many structures, each with the next one twice, and a number at the end.
func doubled(n int) []impl.Cell {
	var cells []impl.Cell
	for i := range n {
		arg := structWord(3 * (i + 1))
		if i == n-1 {
			arg = intWord(0)
		}
		cells = append(cells, functorWord("f", 2), arg, arg)
	}
	return cells
}

// nested are so many structures of one argument, each with the next one, and then a word.
func nested(n int, end impl.Cell) []impl.Cell {
	var cells []impl.Cell
	for i := range n {
		arg := structWord(2 * (i + 1))
		if i == n-1 {
			arg = end
		}
		cells = append(cells, functorWord("f", 1), arg)
	}
	return cells
}

// wantStore asks for a store with CodeOK.
func wantStore(t *testing.T, what string, got impl.Store, code int, want string) {
	t.Helper()
	if text := showStore(got); code != impl.CodeOK || text != want {
		t.Errorf("%.300s: %d\n got %.500s\nwant %.500s", what, code, text, want)
	}
}

// wantNoStore asks for a code and the zero store.
func wantNoStore(t *testing.T, what string, got impl.Store, code int, want int) {
	t.Helper()
	if code != want || !isZeroStore(got) {
		t.Errorf("%.300s: %d with %d words, want %d", what, code, len(got.Cells), want)
	}
}

// badStores miss being valid in one way each.
func badStores() []impl.Store {
	bad := []impl.Store{
		storeOf("@1"), storeOf("@1 @0"), storeOf("f/1"), storeOf("f/2 a"), storeOf("f/1 &0"), storeOf("f/1 g/1 a"),
		storeOf("&1 a"), storeOf("@1 f/1 a"), storeOf("&1"), storeOf("f/1 a | 0"), storeOf("a | 1"), storeOf("a | -1"),
		{Cells: unbound(impl.MaxHeap + 1)}, {Cells: unbound(1), Trail: trailTo(0, impl.MaxHeap+1)},
	}
	for _, c := range badWords() {
		bad = append(bad, impl.Store{Cells: []impl.Cell{c}})
	}
	return bad
}
