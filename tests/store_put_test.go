package tests

import (
	"fmt"
	"slices"
	"testing"

	"loop.example/s00095/impl"
)

func wantDeref(t *testing.T, what string, s impl.Store, from impl.Cell, want impl.Cell) {
	t.Helper()
	if got, code := impl.Deref(s, from); code != impl.CodeOK || showWord(got) != showWord(want) {
		t.Errorf("%.200s, from %s: %d %s, want %s", what, showWord(from), code, showWord(got), showWord(want))
	}
}

func TestDeref(t *testing.T) {
	const words = "@0 @0 @1 7 @3 a @5 @6 f/2 @0 @10 &8 @11 @12 @12 @7"
	s := storeOf(words)
	for from, want := range map[string]string{
		"@0": "@0", "@10": "@10", "@1": "@0", "@2": "@0", "@9": "@0", "@3": "7", "@4": "7", "@5": "a", "@6": "a", "@7": "a", "@15": "a",
		"@11": "&8", "@12": "&8", "@13": "&8", "@14": "&8", "&8": "&8", "9": "9", "other": "other", "-1": "-1",
	} {
		wantDeref(t, words, s, storeWord(from), storeWord(want))
	}
	wantDeref(t, "no words", impl.Store{}, storeWord("a"), storeWord("a"))
	for _, n := range []int{1, 2, 1000, impl.MaxHeap} {
		row := referring(n)
		for _, end := range []impl.Cell{intWord(3), atomWord("end"), refWord(n - 1)} {
			row[n-1] = end
			wantDeref(t, fmt.Sprint(n, " words"), impl.Store{Cells: row}, refWord(0), end)
		}
	}
}

func TestDerefNotValid(t *testing.T) {
	wantNone := func(what string, s impl.Store, w impl.Cell) {
		t.Helper()
		if got, code := impl.Deref(s, w); code != impl.CodeBad || showWord(got) != showWord(impl.Cell{}) {
			t.Errorf("Deref of %.100s, %s: %d %s", what, showWord(w), code, showWord(got))
		}
		if got, code := impl.GetTerm(s, w); code != impl.CodeBad || len(got) != 0 {
			t.Errorf("GetTerm of %.100s, %s: %d %s", what, showWord(w), code, showCells(got))
		}
	}
	for i, s := range badStores() {
		wantNone(fmt.Sprint("bad store ", i), s, intWord(1))
	}
	for _, w := range append(badWords(), functorWord("f", 1), refWord(0), refWord(3), structWord(1), structWord(2)) {
		wantNone("f/1 a @2", storeOf("f/1 a @2"), w)
	}
}

func wantPut(t *testing.T, store string, term string, want string, word string) {
	t.Helper()
	s, w, code := impl.PutTerm(storeOf(store), parsed(term))
	wantStore(t, store+" and "+term, s, code, want)
	if showWord(w) != word {
		t.Errorf("%s and %s: %s, want %s", store, term, showWord(w), word)
	}
}

func TestPutTermAlone(t *testing.T) {
	for term, word := range map[string]string{"a": "a", "[]": "[]", "7": "7", "-7": "-7"} {
		wantPut(t, "", term, "", word)
		wantPut(t, "@0 f/1 @0 | 0 2", term, "@0 f/1 @0 |0 2", word)
	}
	wantPut(t, "", "X0", "@0", "@0")
	wantPut(t, "", "X1000000", "@0", "@0")
	wantPut(t, "@0", "X0", "@0", "@0")
	wantPut(t, "@0", "X1", "@0 @1", "@1")
	wantPut(t, "@0", "X9", "@0 @1", "@1")
	wantPut(t, "@0 | 0", "X9", "@0 @1 |0", "@1")
	// A word that is no variable, or not its own, is an address all the same, and is not followed.
	wantPut(t, "@0 @0 7 f/1 a &3", "X1", "@0 @0 7 f/1 a &3", "@1")
	wantPut(t, "@0 @0 7 f/1 a &3", "X2", "@0 @0 7 f/1 a &3", "@2")
	wantPut(t, "@0 @0 7 f/1 a &3", "X4", "@0 @0 7 f/1 a &3", "@4")
	wantPut(t, "@0 @0 7 f/1 a &3", "X5", "@0 @0 7 f/1 a &3", "@5")
	wantPut(t, "@0 @0 7 f/1 a &3", "X6", "@0 @0 7 f/1 a &3 @6", "@6")
}

func TestPutTermCompounds(t *testing.T) {
	wantPut(t, "", "f(a)", "f/1 a", "&0")
	wantPut(t, "", "f(a,-3,[])", "f/3 a -3 []", "&0")
	wantPut(t, "@0 b", "f(a)", "@0 b f/1 a", "&2")
	wantPut(t, "", "f(X3)", "f/1 @1", "&0")
	wantPut(t, "", "f(X0)", "f/1 @1", "&0")
	wantPut(t, "", "f(X1,X0)", "f/2 @1 @2", "&0")
	wantPut(t, "", "f(X3,X3,X4,X3,X4)", "f/5 @1 @1 @3 @1 @3", "&0")
	wantPut(t, "@0 @1", "f(X1,X0,X2,X2)", "@0 @1 f/4 @1 @0 @5 @5", "&2")
	// The words of a compound are filled from the first to the last, each with all that is within it.
	wantPut(t, "", "f(g(a),h(b))", "f/2 &3 &5 g/1 a h/1 b", "&0")
	wantPut(t, "", "f(g(h(a),i(b)),j(c))", "f/2 &3 &10 g/2 &6 &8 h/1 a i/1 b j/1 c", "&0")
	wantPut(t, "", "[1,2,3]", "./2 1 &3 ./2 2 &6 ./2 3 []", "&0")
	wantPut(t, "", "[[1],2]", "./2 &3 &6 ./2 1 [] ./2 2 []", "&0")
	wantPut(t, "", "f(g(X5),X5)", "f/2 &3 @4 g/1 @4", "&0")
	wantPut(t, "", "f(X5,g(X5))", "f/2 @1 &3 g/1 @1", "&0")
	wantPut(t, "@0", "f(X0,g(X7),X7,X8)", "@0 f/4 @0 &6 @7 @5 g/1 @7", "&1")
	wantPut(t, "@0", "f(g(X8,h(X7)),X7,X8,X9)", "@0 f/4 &6 @10 @7 @5 g/2 @7 &9 h/1 @10", "&1")
	wantPut(t, "a f/1 @2 &1 | 2", "p(X0,X2,X3,X4)", "a f/1 @2 &1 p/4 @0 @2 @3 @8 |2", "&4")
	// A number that becomes an address while the term is put is that of a new variable all the same.
	wantPut(t, "@0", "f(X1,X2,X3,X1)", "@0 f/4 @2 @3 @4 @2", "&1")
	wantPut(t, "", "f(a,g(X0),X1)", "f/3 a &4 @3 g/1 @5", "&0")
}

func TestPutTermNotValid(t *testing.T) {
	wantNone := func(what string, s impl.Store, x []impl.Cell) {
		t.Helper()
		got, w, code := impl.PutTerm(s, x)
		wantNoStore(t, what, got, code, impl.CodeBad)
		if showWord(w) != showWord(impl.Cell{}) {
			t.Errorf("%s: %s", what, showWord(w))
		}
	}
	for i, s := range badStores() {
		wantNone(fmt.Sprint("bad store ", i), s, atomTerm("a"))
	}
	for i, x := range badTerms() {
		wantNone(fmt.Sprint("bad term ", i), storeOf("@0 a"), x)
		wantNone(fmt.Sprint("bad term ", i, " and no words"), impl.Store{}, x)
	}
	for _, src := range []string{"X1", "X3", "f(X1)", "f(X0,X2,X3)", "f(g(a,h(X3)))", "f(X9,X1)", "[X0|X3]"} {
		wantNone(src, storeOf("@0 f/1 @2 g/2 @4 a"), parsed(src))
	}
	for _, src := range []string{"X0", "X2", "X4", "X5", "X6", "f(X0,X2,X4,X5,X6)"} {
		if _, _, code := impl.PutTerm(storeOf("@0 f/1 @2 g/2 @4 a"), parsed(src)); code != impl.CodeOK {
			t.Errorf("%s: %d", src, code)
		}
	}
}

// putBounds are terms with the number of words that they put.
func putBounds() map[int][]impl.Cell {
	return map[int][]impl.Cell{
		0: atomTerm("a"), 1: varTerm(impl.MaxVar), 2: parsed("f(a)"), 3: parsed("f(a,b)"), 4: parsed("f(g(X30000))"), 5: parsed("f(X0,g(X0))"),
		21: compTerm("w", manyItems(20, varTerm(impl.MaxVar))...), 3998: chain(2000),
	}
}

func TestPutTermBounds(t *testing.T) {
	for words, x := range putBounds() {
		for _, more := range []int{-1, 0, 1} {
			before := impl.MaxHeap - words + more
			if before > impl.MaxHeap {
				continue
			}
			what := fmt.Sprintf("%d words behind %d", words, before)
			s, w, code := impl.PutTerm(impl.Store{Cells: unbound(before), Trail: []int{1}}, x)
			if more > 0 {
				wantNoStore(t, what, s, code, impl.CodeMemory)
				if showWord(w) != showWord(impl.Cell{}) {
					t.Errorf("%s: %s", what, showWord(w))
				}
			} else if code != impl.CodeOK || len(s.Cells) != before+words || !impl.ValidStore(s, w) {
				t.Errorf("%s: %d with %d words", what, code, len(s.Cells))
			}
		}
	}
	// A variable that is there needs no word, however full the store is.
	full := impl.Store{Cells: unbound(impl.MaxHeap)}
	s, w, code := impl.PutTerm(full, varTerm(impl.MaxHeap-1))
	if code != impl.CodeOK || len(s.Cells) != impl.MaxHeap || showWord(w) != showWord(refWord(impl.MaxHeap-1)) {
		t.Errorf("a variable in a full store: %d %s", code, showWord(w))
	}
	s, _, code = impl.PutTerm(full, varTerm(impl.MaxHeap))
	wantNoStore(t, "a new variable in a full store", s, code, impl.CodeMemory)
	// What is not valid is told ahead of what is too much.
	s, _, code = impl.PutTerm(impl.Store{Cells: append(unbound(impl.MaxHeap-2), functorWord("f", 1), atomWord("a"))}, compTerm("f", varTerm(impl.MaxHeap-2)))
	wantNoStore(t, "the address of a functor in a full store", s, code, impl.CodeBad)
}

func wantGet(t *testing.T, what string, s impl.Store, w impl.Cell, want []impl.Cell) {
	t.Helper()
	got, code := impl.GetTerm(s, w)
	if code != impl.CodeOK {
		t.Errorf("%.200s, %s: %d", what, showWord(w), code)
	}
	wantCells(t, what+", "+showWord(w), got, want)
}

func TestGetTerm(t *testing.T) {
	const words = "@0 @0 @1 7 @3 a f/2 @1 @8 &6 @9 . g/3 @10 @4 &6 ./2 @5 []"
	for from, want := range map[string]string{
		"@0": "X0", "@2": "X0", "@8": "X8", "@3": "7", "@4": "7", "@5": "a", "9": "9", "other": "other", "@11": "'.'",
		"&6": "f(X0,X8)", "@9": "f(X0,X8)", "@10": "f(X0,X8)", "&12": "g(f(X0,X8),7,f(X0,X8))", "&16": "[a]", "@13": "f(X0,X8)", "@7": "X0",
	} {
		wantGet(t, words, storeOf(words), storeWord(from), parsed(want))
	}
	wantGet(t, "no words", impl.Store{}, storeWord("a"), parsed("a"))
	wantGet(t, "no words", impl.Store{}, intWord(-impl.MaxInt), intTerm(-impl.MaxInt))
	wantGet(t, "no name", impl.Store{Cells: []impl.Cell{functorWord("", 1), atomWord("")}}, structWord(0), compTerm("", atomTerm("")))
	long := impl.Store{Cells: append(referring(impl.MaxHeap-3), structWord(impl.MaxHeap-2), functorWord(longestName, 1), refWord(impl.MaxHeap-1))}
	wantGet(t, "a long row", long, refWord(0), compTerm(longestName, varTerm(impl.MaxHeap-1)))
}

func TestGetTermBounds(t *testing.T) {
	for n := impl.MaxCells - 2; n <= impl.MaxCells+2; n++ {
		isKept := n <= impl.MaxCells
		want := chain(n)
		rows := nested(n-1, atomWord("a"))
		got, code := impl.GetTerm(impl.Store{Cells: rows}, structWord(0))
		if isKept && (code != impl.CodeOK || showCells(got) != showCells(want)) || !isKept && (code != impl.CodeLimit || len(got) != 0) {
			t.Errorf("%d cells: %d with %d", n, code, len(got))
		}
		// The references on the way are no cells of the term.
		for i := range rows {
			rows[i].N += n * boolNumber(rows[i].Kind == impl.WordStruct)
		}
		got, code = impl.GetTerm(impl.Store{Cells: append(append(referring(n-1), structWord(n)), rows...)}, refWord(0))
		if (code == impl.CodeOK) != isKept || isKept && len(got) != n {
			t.Errorf("%d cells behind references: %d with %d", n, code, len(got))
		}
	}
	for n, want := range map[int]int{9: 1023, 10: 0, 11: 0, 60: 0, 6000: 0} {
		got, code := impl.GetTerm(impl.Store{Cells: doubled(n)}, structWord(0))
		if len(got) != want || code != impl.CodeOK && want > 0 || code != impl.CodeLimit && want == 0 {
			t.Errorf("%d doubled: %d with %d cells", n, code, len(got))
		}
	}
	// The last argument alone may be what is too much.
	for last, want := range map[string]int{"a": impl.CodeOK, "&20": impl.CodeLimit} {
		cells := append([]impl.Cell{functorWord("f", 19)}, slices.Repeat([]impl.Cell{structWord(22)}, 18)...)
		cells = append(cells, storeWord(last), functorWord("g", 1), intWord(0))
		cells = append(cells, wideWords(22, 111)...)
		if got, code := impl.GetTerm(impl.Store{Cells: cells}, structWord(0)); code != want || want == impl.CodeOK && len(got) != impl.MaxCells {
			t.Errorf("a last argument %s: %d with %d cells", last, code, len(got))
		}
	}
}

func boolNumber(holds bool) int {
	if holds {
		return 1
	}
	return 0
}

// wideWords is, from an address on, a term of so many cells, that have at most MaxArity arguments each.
func wideWords(at int, cells int) []impl.Cell {
	var out []impl.Cell
	for cells > 0 {
		args := min(cells-1, impl.MaxArity)
		out = append(out, functorWord("w", args))
		cells -= 1 + args
		for range args - 1 {
			out = append(out, intWord(1))
		}
		if cells > 0 {
			out, cells = append(out, structWord(at+len(out)+1)), cells+1
		} else {
			out = append(out, intWord(1))
		}
	}
	return out
}

// What is put is got again: the same term, with the addresses of its new variables for their numbers.
func TestGetTermOfPutTerm(t *testing.T) {
	for i, x := range validTerms() {
		s, w, code := impl.PutTerm(impl.Store{}, x)
		got, getCode := impl.GetTerm(s, w)
		if code != impl.CodeOK || getCode != impl.CodeOK || !impl.Variant(got, x) {
			t.Errorf("term %d, %.100s: %d %d %.100s", i, showCells(x), code, getCode, showCells(got))
		}
	}
	d := dice(101)
	for range 3000 {
		s := mixedStore(&d)
		before := len(s.Cells)
		x := wordsTerm(&d, s, 3)
		put, w, code := impl.PutTerm(s, x)
		if code != impl.CodeOK {
			t.Fatalf("%s and %s: %d", showStore(s), showCells(x), code)
		}
		if showStore(impl.Store{Cells: put.Cells[:before], Trail: put.Trail}) != showStore(s) {
			t.Fatalf("%s and %s: %s", showStore(s), showCells(x), showStore(put))
		}
		got, code := impl.GetTerm(put, w)
		// Old variables stand for what they did, new ones come back by their first places.
		var sub []impl.Binding
		for v := range before {
			if s.Cells[v].Kind != impl.WordFunctor {
				old, _ := impl.GetTerm(s, refWord(v))
				sub = append(sub, bind(v, old))
			}
		}
		if whole := refApply(sub, x); code != impl.CodeOK || !isVariantFrom(before, got, whole) {
			t.Fatalf("%s and %s: %d %s", showStore(s), showCells(x), code, showCells(got))
		}
	}
}

// isVariantFrom answers whether terms differ in nothing but which variables with numbers from one on they have.
func isVariantFrom(first int, a []impl.Cell, b []impl.Cell) bool {
	old := varsFrom(0, first)
	return impl.Variant(wideOf(a, old...), wideOf(b, old...))
}
