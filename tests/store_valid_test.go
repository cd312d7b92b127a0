package tests

import (
	"fmt"
	"math"
	"slices"
	"strings"
	"testing"

	"loop.example/s00095/impl"
)

var (
	longestName = strings.Repeat("n", impl.MaxAtom)
	tooLongName = longestName + "n"
)

// badWords can be words or WordFunctors of no store.
func badWords() []impl.Cell {
	bad := []impl.Cell{
		{Kind: -1}, {Kind: 5}, {Kind: 6}, {Kind: math.MaxInt}, {Kind: math.MinInt}, {Kind: 5, Text: []byte("a")}, {Kind: 5, N: 1},
		intWord(impl.MaxInt + 1), intWord(-impl.MaxInt - 1), intWord(math.MaxInt), intWord(math.MinInt),
		atomWord(tooLongName), {Kind: impl.WordAtom, N: 1, Text: []byte("a")}, {Kind: impl.WordAtom, N: -1, Text: []byte("a")},
		refWord(-1), refWord(impl.MaxHeap), refWord(math.MaxInt), refWord(math.MinInt),
		structWord(-1), structWord(impl.MaxHeap), structWord(math.MaxInt), structWord(math.MinInt),
		{Kind: impl.WordAtom, Text: make([]byte, 50000)},
	}
	for _, kind := range []int{impl.WordRef, impl.WordInt, impl.WordStruct} {
		bad = append(bad, impl.Cell{Kind: kind, Text: []byte("a")}, impl.Cell{Kind: kind, Text: []byte{0}})
	}
	return bad
}

func wantValidStore(t *testing.T, what string, s impl.Store, w impl.Cell, want bool) {
	t.Helper()
	if impl.ValidStore(s, w) != want {
		t.Errorf("%.200s with %s: %v", what, showWord(w), !want)
	}
}

func TestValidStores(t *testing.T) {
	for _, text := range []string{
		"", "@0", "@0 @1 @2", "@0 @0", "@1 @1", "@1 @2 @2", "@2 @0 @2", "5", "a", "[] @1 -7", "f/1 a", "f/1 @1", "f/2 @2 @2", "f/1 @2 x",
		"f/1 a g/2 b c", "&1 f/1 a", "f/1 a &0", "f/1 a &0 &0 @2", "f/2 &3 &3 g/1 @4", "f/1 &2 g/1 &4 h/1 @5", "@1 &2 f/1 @4 @4",
		"@0 @0 @1 @3 f/2 @0 @6 &4", "| ", "@0 | 0", "@0 f/1 a | 2 0 2 2", "a 5 &3 f/1 @0 | 0 1 2 4",
	} {
		wantValidStore(t, text, storeOf(text), intWord(1), true)
	}
}

func TestStoresThatAreNotValid(t *testing.T) {
	for i, s := range badStores() {
		wantValidStore(t, fmt.Sprintf("bad store %d, %.100s", i, showStore(s)), s, intWord(1), false)
	}
}

// Each word stands in a store, as an argument, and is the word that is asked for beside one.
func wantWord(t *testing.T, w impl.Cell, want bool) {
	t.Helper()
	wantValidStore(t, "alone", storeOf("f/1 a @2"), w, want)
	for _, before := range []string{"f/1 a @2", "f/1 a @2 g/2 b"} {
		s := storeOf(before)
		s.Cells = append(s.Cells, w)
		wantValidStore(t, "behind "+before+": "+showStore(s), s, intWord(1), want)
	}
}

func TestWordBounds(t *testing.T) {
	for _, w := range []impl.Cell{
		intWord(0), intWord(impl.MaxInt), intWord(-impl.MaxInt), atomWord(""), atomWord("a"), atomWord(longestName), atomWord("\x00\xff"),
		{Kind: impl.WordInt, N: 3, Text: []byte{}}, {Kind: impl.WordRef, N: 2, Text: []byte{}}, {Kind: impl.WordStruct, Text: []byte{}},
		refWord(1), refWord(2), structWord(0),
	} {
		wantWord(t, w, true)
	}
	for _, w := range append(badWords(), refWord(0), structWord(1), structWord(2)) {
		wantWord(t, w, false)
	}
}

func TestWordAddresses(t *testing.T) {
	s := storeOf("@0 7 f/1 a &2 @4 g/2 @7 b | 0 7")
	for address, holds := range map[int]string{0: "word", 1: "word", 2: "functor", 3: "word", 4: "word", 5: "word", 6: "functor", 7: "word", 8: "word", -1: "", 9: "", 10: ""} {
		wantValidStore(t, "a reference", s, refWord(address), holds == "word")
		wantValidStore(t, "a structure", s, structWord(address), holds == "functor")
		trailed := copyStore(s)
		trailed.Trail = append(trailed.Trail, address, 0)
		wantValidStore(t, fmt.Sprint("trail ", address), trailed, intWord(1), holds == "word")
		// A reference at its own address is a variable, and one behind it leads to it, so both are put as arguments of others.
		referring := copyStore(s)
		referring.Cells = append(referring.Cells, refWord(address))
		wantValidStore(t, fmt.Sprint("reference to ", address), referring, intWord(1), holds == "word" || address == 9)
		leading := copyStore(s)
		leading.Cells = append(leading.Cells, structWord(address))
		wantValidStore(t, fmt.Sprint("structure at ", address), leading, intWord(1), holds == "functor")
	}
	for _, w := range []impl.Cell{functorWord("f", 1), functorWord("g", 2), functorWord("a", 0)} {
		wantValidStore(t, "a functor beside a store", s, w, false)
		wantValidStore(t, "a functor beside no words", impl.Store{}, w, false)
	}
}

func TestFunctorBounds(t *testing.T) {
	for arity := -1; arity <= impl.MaxArity+1; arity++ {
		isArity := arity >= 1 && arity <= impl.MaxArity
		for words := range impl.MaxArity + 3 {
			s := impl.Store{Cells: append([]impl.Cell{functorWord("f", arity)}, manyWords(words, func(int) impl.Cell { return atomWord("a") })...)}
			wantValidStore(t, fmt.Sprint(words, " words behind an arity of ", arity), s, intWord(1), isArity && words >= arity)
			s.Cells = append(s.Cells, functorWord("g", 1), atomWord("b"))
			wantValidStore(t, fmt.Sprint(words, " words and a functor behind an arity of ", arity), s, intWord(1), isArity && words >= arity)
		}
	}
	for name, want := range map[string]bool{"": true, "a": true, "\x00\xff": true, longestName: true, tooLongName: false, strings.Repeat("n", 50000): false} {
		wantValidStore(t, fmt.Sprint(len(name), " bytes of a name"), impl.Store{Cells: []impl.Cell{functorWord(name, 1), atomWord("a")}}, structWord(0), want)
	}
	for _, arity := range []int{math.MaxInt, math.MinInt, -2, 22} {
		wantValidStore(t, fmt.Sprint("arity ", arity), impl.Store{Cells: append([]impl.Cell{functorWord("f", arity)}, unboundFrom(1, 30)...)}, intWord(1), false)
	}
}

// unboundFrom are variables that stand from an address on.
func unboundFrom(first int, n int) []impl.Cell {
	return manyWords(n, func(at int) impl.Cell { return refWord(first + at) })
}

func TestStoreLoops(t *testing.T) {
	for _, text := range []string{
		"@1 @0", "@1 @2 @0", "@1 @2 @1", "@2 @1 @0", "@1 @2 @3 @2", "f/1 &0", "f/2 a &0", "f/2 &0 a", "f/1 &2 g/1 &0", "f/1 &2 g/1 &4 h/1 &2", "&1 f/1 @0", "f/1 @2 &0", "f/1 @2 @3 &0",
		"f/1 @2 @3 &4 g/2 a @1", "&2 @0 f/1 @1", "f/2 &3 &3 g/1 &0", "f/3 @4 @5 @6 a b &0",
	} {
		wantValidStore(t, text, storeOf(text), intWord(1), false)
		behind := storeOf(text)
		behind.Cells = append(behind.Cells, storeWord("a"), refWord(len(behind.Cells)+1))
		wantValidStore(t, text+" and more", behind, intWord(1), false)
	}
	for _, n := range []int{2, 3, 100, impl.MaxHeap} {
		circle := referring(n)
		circle[n-1] = refWord(0)
		wantValidStore(t, fmt.Sprint("circle of ", n, " references"), impl.Store{Cells: circle}, intWord(1), false)
		circle[n-1] = refWord(n - 1)
		wantValidStore(t, fmt.Sprint("row of ", n, " references"), impl.Store{Cells: circle}, refWord(0), true)
		circle[n-1] = intWord(1)
		wantValidStore(t, fmt.Sprint("row of ", n, " references to a number"), impl.Store{Cells: circle}, refWord(0), true)
	}
	for _, n := range []int{1, 2, 100, impl.MaxHeap / 2} {
		wantValidStore(t, fmt.Sprint("circle of ", n, " structures"), impl.Store{Cells: nested(n, structWord(0))}, intWord(1), false)
		wantValidStore(t, fmt.Sprint("circle of ", n, " structures by a reference"), impl.Store{Cells: nested(n, refWord(1))}, intWord(1), n == 1)
		wantValidStore(t, fmt.Sprint("row of ", n, " structures"), impl.Store{Cells: nested(n, refWord(2*n-1))}, structWord(0), true)
	}
}

// Parts that are shared are no loops, however many ways lead to them.
func TestSharedPartsAreValid(t *testing.T) {
	for _, n := range []int{2, 60, impl.MaxHeap / 3} {
		wantValidStore(t, fmt.Sprint(n, " doubled"), impl.Store{Cells: doubled(n)}, structWord(0), true)
		looped := doubled(n)
		looped[len(looped)-1] = structWord(0)
		wantValidStore(t, fmt.Sprint(n, " doubled, in a circle"), impl.Store{Cells: looped}, intWord(1), false)
	}
	backwards := unbound(impl.MaxHeap)
	for i := range backwards {
		backwards[i].N = max(0, i-1)
	}
	wantValidStore(t, "references backwards", impl.Store{Cells: backwards}, refWord(impl.MaxHeap-1), true)
}

func TestStoreBounds(t *testing.T) {
	full := unbound(impl.MaxHeap)
	wantValidStore(t, "all cells", impl.Store{Cells: full, Trail: trailTo(5, impl.MaxHeap)}, refWord(impl.MaxHeap-1), true)
	wantValidStore(t, "one more cell", impl.Store{Cells: append(slices.Clone(full), intWord(1))}, intWord(1), false)
	wantValidStore(t, "one more address", impl.Store{Cells: full, Trail: trailTo(5, impl.MaxHeap+1)}, intWord(1), false)
	wantValidStore(t, "many more cells", impl.Store{Cells: make([]impl.Cell, 10*impl.MaxHeap)}, intWord(1), false)
	wantValidStore(t, "the first address behind all cells", impl.Store{Cells: full, Trail: []int{impl.MaxHeap}}, intWord(1), false)
	wantValidStore(t, "the first word behind all cells", impl.Store{Cells: full}, refWord(impl.MaxHeap), false)
}

// refValidStore is a second reading: what leads to nothing, or to what is sound alone, is sound; so in the end all is.
func refValidStore(s impl.Store) bool {
	missing := 0
	functors := map[int]bool{}
	for i, c := range s.Cells {
		functors[i] = c.Kind == impl.WordFunctor
		if functors[i] && missing > 0 {
			return false
		}
		missing = max(0, missing-1)
		if functors[i] {
			missing = c.N
		}
	}
	sound := map[int]bool{}
	for range s.Cells {
		for i, c := range s.Cells {
			isFunctor, isThere := functors[c.N]
			switch c.Kind {
			case impl.WordRef:
				sound[i] = isThere && !isFunctor && (c.N == i || sound[c.N])
			case impl.WordStruct:
				isSound := isFunctor
				for k := 1; isFunctor && k <= s.Cells[c.N].N; k++ {
					isSound = isSound && sound[c.N+k]
				}
				sound[i] = isSound
			default:
				sound[i] = true
			}
		}
	}
	for i := range s.Cells {
		if !sound[i] {
			return false
		}
	}
	return missing == 0
}

// allStores are all rows of so many of some words.
func allStores(words []impl.Cell, n int, each func(s impl.Store)) {
	cells := make([]impl.Cell, n)
	var fill func(at int)
	fill = func(at int) {
		if at == n {
			each(impl.Store{Cells: cells})
			return
		}
		for _, w := range words {
			cells[at] = w
			fill(at + 1)
		}
	}
	fill(0)
}

func TestValidReference(t *testing.T) {
	words := storeOf("@0 @1 @2 @3 @4 &0 &1 &2 &3 f/1 f/2 a").Cells
	valid := 0
	for n := 1; n <= 5; n++ {
		allStores(words, n, func(s impl.Store) {
			want := refValidStore(s)
			if impl.ValidStore(s, intWord(1)) != want {
				t.Fatalf("%s: %v", showStore(s), !want)
			}
			if want {
				valid++
			}
		})
	}
	if valid < 5000 {
		t.Errorf("%d valid stores are few", valid)
	}
}
