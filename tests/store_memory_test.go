package tests

import (
	"fmt"
	"slices"
	"testing"

	"loop.example/s00095/impl"
)

// lendStore lays a store amid spare memory, and answers a check that none of it was written into.
func lendStore(s impl.Store) (impl.Store, func() bool) {
	cells, cellsStay := lend(s.Cells)
	trail := append(slices.Clone(s.Trail), 91, 92, 93)
	before := fmt.Sprint(trail)
	return impl.Store{Cells: cells, Trail: trail[:len(s.Trail)]}, func() bool { return cellsStay() && fmt.Sprint(trail) == before }
}

func overwriteStore(s impl.Store) {
	overwriteCells(s.Cells)
	overwriteInts(s.Trail)
}

// storeCall is what one function makes of a store and words.
type storeCall func(s impl.Store, a impl.Cell, b impl.Cell) (impl.Store, [][]impl.Cell, int)

// storeCalls are all functions of chapter 10 that answer lists. A list of words or cells is the second answer.
func storeCalls(term []impl.Cell) map[string]storeCall {
	return map[string]storeCall{
		"Deref": func(s impl.Store, a impl.Cell, b impl.Cell) (impl.Store, [][]impl.Cell, int) {
			w, code := impl.Deref(s, a)
			return impl.Store{}, [][]impl.Cell{{w}}, code
		},
		"PutTerm": func(s impl.Store, a impl.Cell, b impl.Cell) (impl.Store, [][]impl.Cell, int) {
			out, w, code := impl.PutTerm(s, term)
			return out, [][]impl.Cell{{w}}, code
		},
		"GetTerm": func(s impl.Store, a impl.Cell, b impl.Cell) (impl.Store, [][]impl.Cell, int) {
			x, code := impl.GetTerm(s, a)
			return impl.Store{}, [][]impl.Cell{x}, code
		},
		"BindCell": func(s impl.Store, a impl.Cell, b impl.Cell) (impl.Store, [][]impl.Cell, int) {
			out, code := impl.BindCell(s, 0, a)
			return out, nil, code
		},
		"UnifyStore": func(s impl.Store, a impl.Cell, b impl.Cell) (impl.Store, [][]impl.Cell, int) {
			out, code := impl.UnifyStore(s, a, b)
			return out, nil, code
		},
		"Unwind": func(s impl.Store, a impl.Cell, b impl.Cell) (impl.Store, [][]impl.Cell, int) {
			impl.ValidStore(s, a)
			out, code := impl.Unwind(s, len(s.Trail)/2, len(s.Cells))
			return out, nil, code
		},
	}
}

// memoryStores have names that come again and again; some are not valid. Their texts are of one and the same memory.
func memoryStores() []impl.Store {
	stores := []impl.Store{{}}
	for _, text := range []string{
		"@0 name name/2 name @4 &2 @5 name/1 name", "@0", "@0 @1 | 1 0 1", "@0 name/1 name name/1 @0", "name/2 @1 name name/2 name @5 | 1 2", "@0 name | 1 0",
		"@0 name name/2 @0 name &2", "@0 @1 name/2 &5 name name/1 @0", "@0 name name/2 name", "@0 name &1", "@1 @0", "@0 name | 3",
	} {
		s := storeOf(text)
		shared := []byte("name")
		for i := range s.Cells {
			if len(s.Cells[i].Text) > 0 {
				s.Cells[i].Text = shared
			}
		}
		stores = append(stores, s)
	}
	return stores
}

func showStoreAnswer(s impl.Store, lists [][]impl.Cell, code int) string {
	return fmt.Sprint(showStore(s), " ", showLists(lists), " ", code)
}

func TestStoreMemory(t *testing.T) {
	words := []impl.Cell{refWord(0), refWord(1), structWord(0), structWord(2), refWord(5), atomWord("name"), intWord(3), functorWord("name", 1)}
	terms := [][]impl.Cell{parsed("name"), parsed("X0"), parsed("X99"), parsed("name(name,X0,name(name,X99),X98)"), nil}
	codes := map[int]int{}
	for _, s := range memoryStores() {
		for _, a := range words {
			for _, b := range words {
				for _, x := range terms {
					for _, code := range wantStoreMemory(t, s, a, b, x) {
						codes[code]++
					}
				}
			}
		}
	}
	wantOften(t, codes, impl.CodeOK, impl.CodeBad, impl.CodeFail, impl.CodeCyclic)
}

// wantStoreMemory asks of each function that it writes into no argument, and that its answer shares memory with none, nor
// one of its lists with another. It answers the codes.
func wantStoreMemory(t *testing.T, s impl.Store, a impl.Cell, b impl.Cell, x []impl.Cell) map[string]int {
	t.Helper()
	lent, storeStays := lendStore(s)
	two, wordsStay := lend([]impl.Cell{a, b})
	term, termStays := lend(x)
	codes := map[string]int{}
	for name, call := range storeCalls(term) {
		what := fmt.Sprintf("%s of %s, %s", name, showStore(s), showWords(two))
		out, lists, code := call(lent, two[0], two[1])
		codes[name] = code
		if !storeStays() || !wordsStay() || !termStays() {
			t.Fatalf("%s: written into", what)
		}
		before := showStoreAnswer(out, lists, code)
		overwriteStore(out)
		for _, list := range lists {
			overwriteCells(list)
		}
		if !storeStays() || !wordsStay() || !termStays() {
			t.Fatalf("%s: the answer shares its memory", what)
		}
		copied, copies, copiedTerm := copyStore(s), copyTerm([]impl.Cell{a, b}), copyTerm(x)
		out, lists, code = storeCalls(copiedTerm)[name](copied, copies[0], copies[1])
		overwriteStore(copied)
		overwriteCells(copies)
		overwriteCells(copiedTerm)
		if showStoreAnswer(out, lists, code) != before {
			t.Fatalf("%s: the answer changes with it, or is another the second time", what)
		}
		wantUnshared(t, what, append(lists, out.Cells))
	}
	return codes
}

// The trail of an answer is its own.
func TestTrailMemory(t *testing.T) {
	s := storeOf("@0 @1 a | 0 1 2")
	s.Trail = append(make([]int, 0, 100), s.Trail...)
	first, _ := impl.BindCell(s, 0, atomWord("a"))
	second, _ := impl.BindCell(s, 1, atomWord("b"))
	put, _, _ := impl.PutTerm(s, atomTerm("a"))
	unwound, _ := impl.Unwind(s, 3, 3)
	again, _ := impl.Unwind(s, 2, 3)
	overwriteInts(s.Trail)
	overwriteInts(unwound.Trail)
	for i, c := range []struct {
		got  impl.Store
		want string
	}{{first, "a @1 a |0 1 2 0"}, {second, "@0 b a |0 1 2 1"}, {put, "@0 @1 a |0 1 2"}, {again, "@0 @1 @2 |0 1"}} {
		wantStore(t, fmt.Sprint("answer ", i), c.got, impl.CodeOK, c.want)
	}
}
