package tests

import (
	"fmt"
	"slices"
	"testing"

	"loop.example/s00095/impl"
)

func wantOneStore(t *testing.T, store string, a string, b string, want string) {
	t.Helper()
	s, code := impl.UnifyStore(storeOf(store), storeWord(a), storeWord(b))
	wantStore(t, fmt.Sprintf("%s, %s and %s", store, a, b), s, code, want)
}

// wantBothWays asks for the same whichever word comes first.
func wantBothWays(t *testing.T, store string, a string, b string, want string) {
	t.Helper()
	wantOneStore(t, store, a, b, want)
	wantOneStore(t, store, b, a, want)
}

// wantStopped asks for a code, and a store with what was bound before.
func wantStopped(t *testing.T, store string, a string, b string, code int, want string) {
	t.Helper()
	got, gotCode := impl.UnifyStore(storeOf(store), storeWord(a), storeWord(b))
	if gotCode != code || showStore(got) != want {
		t.Errorf("%s, %s and %s: %d %s, want %d %s", store, a, b, gotCode, showStore(got), code, want)
	}
}

func TestUnifyStorePairs(t *testing.T) {
	const store = "@0 @1 7 a f/1 @5 g/2 b @8 h/1 8"
	for _, same := range []string{"7", "a", "@0", "@1", "@2", "@3", "&4", "&6", "&9", "@8"} {
		wantOneStore(t, store, same, same, store)
	}
	for _, pair := range [][2]string{{"7", "@2"}, {"a", "@3"}, {"8", "@10"}} {
		wantBothWays(t, store, pair[0], pair[1], store)
	}
	for _, pair := range [][2]string{{"7", "8"}, {"7", "a"}, {"a", "b"}, {"7", "&4"}, {"a", "&4"}, {"f", "&4"}, {"&4", "&6"}, {"&4", "&9"}, {"@2", "@3"}, {"@2", "@10"}, {"7", "-7"}} {
		wantStopped(t, store, pair[0], pair[1], impl.CodeFail, store)
		wantStopped(t, store, pair[1], pair[0], impl.CodeFail, store)
	}
	wantBothWays(t, store, "@0", "7", "7 @1 7 a f/1 @5 g/2 b @8 h/1 8 |0")
	wantBothWays(t, store, "@0", "a", "a @1 7 a f/1 @5 g/2 b @8 h/1 8 |0")
	wantBothWays(t, store, "@0", "&4", "&4 @1 7 a f/1 @5 g/2 b @8 h/1 8 |0")
	wantBothWays(t, store, "@0", "@2", "7 @1 7 a f/1 @5 g/2 b @8 h/1 8 |0")
	wantBothWays(t, store, "@0", "@1", "@0 @0 7 a f/1 @5 g/2 b @8 h/1 8 |1")
	wantBothWays(t, store, "@8", "@1", "@0 @1 7 a f/1 @5 g/2 b @1 h/1 8 |8")
	wantBothWays(t, store, "@5", "@8", "@0 @1 7 a f/1 @5 g/2 b @5 h/1 8 |8")
}

func TestUnifyStoreArguments(t *testing.T) {
	wantBothWays(t, "f/2 @1 b f/2 a @5", "&0", "&3", "f/2 a b f/2 a b |1 5")
	wantBothWays(t, "f/2 @1 @2 f/2 @4 @5", "&0", "&3", "f/2 @1 @2 f/2 @1 @2 |4 5")
	wantBothWays(t, "f/3 @1 @2 @3 f/3 @2 @3 c", "&0", "&4", "f/3 c @1 @1 f/3 @2 @3 c |2 3 1")
	wantStopped(t, "f/2 @1 a f/2 7 b", "&0", "&3", impl.CodeFail, "f/2 7 a f/2 7 b |1")
	wantStopped(t, "f/2 a @2 f/2 b 7", "&0", "&3", impl.CodeFail, "f/2 a @2 f/2 b 7")
	wantStopped(t, "f/1 a f/2 a a", "&0", "&2", impl.CodeFail, "f/1 a f/2 a a")
	wantStopped(t, "f/1 a g/1 a", "&0", "&2", impl.CodeFail, "f/1 a g/1 a")
	// The arguments of an argument come ahead of those behind it.
	wantBothWays(t, "p/3 &8 @2 @3 p/3 &10 x y q/1 @9 q/1 z", "&0", "&4", "p/3 &8 x y p/3 &10 x y q/1 z q/1 z |9 2 3")
	wantBothWays(t, "p/3 @1 &8 @3 p/3 x &11 y q/2 @9 @10 q/2 z 1", "&0", "&4", "p/3 x &8 y p/3 x &11 y q/2 z 1 q/2 z 1 |1 9 10 3")
	// A variable that was bound by a pair before stands for what it is bound to.
	wantBothWays(t, "f/2 @1 @1 f/2 a @5", "&0", "&3", "f/2 a @1 f/2 a a |1 5")
	wantStopped(t, "f/2 @1 @1 f/2 a b", "&0", "&3", impl.CodeFail, "f/2 a @1 f/2 a b |1")
	wantBothWays(t, "f/2 @1 @1 f/2 &6 &8 g/1 @7 g/1 b", "&0", "&3", "f/2 &6 @1 f/2 &6 &8 g/1 b g/1 b |1 7")
	// The trail that was there stays ahead.
	wantBothWays(t, "@0 @1 5 | 2 0", "@1", "7", "@0 7 5 |2 0 1")
}

func TestUnifyStoreCyclic(t *testing.T) {
	wantStopped(t, "@0 f/1 @0", "@0", "&1", impl.CodeCyclic, "@0 f/1 @0")
	wantStopped(t, "@0 f/1 @0", "&1", "@0", impl.CodeCyclic, "@0 f/1 @0")
	wantStopped(t, "f/1 @1", "&0", "@1", impl.CodeCyclic, "f/1 @1")
	wantStopped(t, "p/2 @1 @1 p/2 &6 @5 g/1 @5", "&0", "&3", impl.CodeCyclic, "p/2 &6 @1 p/2 &6 @5 g/1 @5 |1")
	wantStopped(t, "p/3 @1 @2 @3 p/3 &8 &10 &12 g/1 @2 g/1 @3 g/1 @1", "&0", "&4", impl.CodeCyclic, "p/3 &8 &10 @3 p/3 &8 &10 &12 g/1 @2 g/1 @3 g/1 @1 |1 2")
	wantBothWays(t, "p/2 @1 @2 p/2 @2 &6 g/1 @7", "&0", "&3", "p/2 &6 @1 p/2 @2 &6 g/1 @7 |2 1")
}

func TestUnifyStoreNotValid(t *testing.T) {
	wantNone := func(what string, s impl.Store, a impl.Cell, b impl.Cell) {
		t.Helper()
		got, code := impl.UnifyStore(s, a, b)
		wantNoStore(t, what, got, code, impl.CodeBad)
		got, code = impl.UnifyStore(s, b, a)
		wantNoStore(t, what+", turned", got, code, impl.CodeBad)
	}
	for i, s := range badStores() {
		wantNone(fmt.Sprint("bad store ", i), s, intWord(1), intWord(1))
	}
	const store = "f/1 a @2"
	for _, w := range append(badWords(), functorWord("f", 1), refWord(0), refWord(3), structWord(1), structWord(2)) {
		wantNone("a bad word", storeOf(store), w, atomWord("a"))
		wantNone("a bad word", storeOf(store), w, refWord(2))
		wantNone("a bad word", storeOf(store), w, w)
	}
}

// putBoth puts the variables of two terms in the order of their numbers, and then the terms. It answers the addresses of
// the variables, too.
func putBoth(t *testing.T, a []impl.Cell, b []impl.Cell) (s impl.Store, first impl.Cell, second impl.Cell, vars map[int]int) {
	t.Helper()
	all := slices.Concat(impl.TermVars(a), impl.TermVars(b))
	slices.Sort(all)
	vars = map[int]int{}
	var sub []impl.Binding
	for _, v := range slices.Compact(all) {
		vars[v] = len(s.Cells)
		sub = append(sub, bind(v, varTerm(len(s.Cells))))
		s.Cells = append(s.Cells, refWord(len(s.Cells)))
	}
	s, first, code := impl.PutTerm(s, refApply(sub, a))
	s, second, codeSecond := impl.PutTerm(s, refApply(sub, b))
	if code != impl.CodeOK || codeSecond != impl.CodeOK {
		t.Fatalf("%d %d", code, codeSecond)
	}
	return s, first, second, vars
}

// wantAsUnify asks for the code of Unify, if this is not one of its answer's bounds, and that each variable stands for
// what Unify binds it to.
func wantAsUnify(t *testing.T, what string, a []impl.Cell, b []impl.Cell, want int) {
	t.Helper()
	s, first, second, vars := putBoth(t, a, b)
	for _, words := range [][2]impl.Cell{{first, second}, {second, first}} {
		got, code := impl.UnifyStore(s, words[0], words[1])
		if code != want {
			t.Errorf("%.200s: %d, want %d", what, code, want)
		}
		wantUnwound(t, got, s)
		sub, code := impl.Unify(a, b)
		if want != impl.CodeOK || code != impl.CodeOK {
			continue
		}
		var addresses []impl.Binding
		for v, at := range vars {
			addresses = append(addresses, bind(v, varTerm(at)))
		}
		for v, at := range vars {
			to := refApply(addresses, refApply(sub, varTerm(v)))
			wantGet(t, what, got, refWord(at), to)
		}
		if len(got.Trail) != len(sub) {
			t.Errorf("%.200s: %d addresses for %d bindings", what, len(got.Trail), len(sub))
		}
	}
}

func TestUnifyStoreAsUnify(t *testing.T) {
	d := dice(108)
	codes := map[int]int{}
	for i := range 4000 {
		whole := leafyTerm(&d, 4)
		a, b := holed(&d, whole), holed(&d, whole)
		if i%4 == 0 {
			b = holed(&d, leafyTerm(&d, 4))
		}
		_, code := impl.Unify(a, b)
		wantAsUnify(t, showCells(a)+", "+showCells(b), a, b, code)
		codes[code]++
	}
	wantOften(t, codes, impl.CodeOK, impl.CodeFail, impl.CodeCyclic)
}

// wantStoreAtPair asks for a code where two ends are the pair with this number.
func wantStoreAtPair(t *testing.T, number int, a []impl.Cell, b []impl.Cell, want int) {
	t.Helper()
	left, right := pairsBefore(number - 1)
	wantAsUnify(t, fmt.Sprintf("%s, %s as pair %d", showCells(a), showCells(b), number), listEnding(a, left...), listEnding(b, right...), want)
}

func TestUnifyStorePairBounds(t *testing.T) {
	a, x, fx := atomTerm("a"), varTerm(9), compTerm("f", varTerm(9))
	for n := impl.MaxPairs - 1; n <= impl.MaxPairs+1; n++ {
		for want, ends := range map[int][][]impl.Cell{impl.CodeOK: {a, a, x, x, x, a}, impl.CodeFail: {a, atomTerm("b")}, impl.CodeCyclic: {x, fx}} {
			if n > impl.MaxPairs {
				want = impl.CodeLimit
			}
			for i := 0; i < len(ends); i += 2 {
				wantStoreAtPair(t, n, ends[i], ends[i+1], want)
			}
		}
	}
	wantStoreAtPair(t, impl.MaxPairs, parsed("f(a)"), parsed("f(a)"), impl.CodeLimit)
	wantStoreAtPair(t, impl.MaxPairs-1, parsed("f(a)"), parsed("f(a)"), impl.CodeOK)
	wantStoreAtPair(t, impl.MaxPairs-1, parsed("f(a,b,c)"), parsed("f(b,b,c)"), impl.CodeFail)
	wantStoreAtPair(t, impl.MaxPairs-1, parsed("f(a,b,c)"), parsed("f(a,c,c)"), impl.CodeLimit)
}

// A structure that is held against itself is gone through all the same, so that its pairs may be too many.
func TestUnifyStoreSameStructures(t *testing.T) {
	for n, want := range map[int]int{1: impl.CodeOK, 9: impl.CodeOK, 13: impl.CodeOK, 14: impl.CodeLimit, 15: impl.CodeLimit, 6000: impl.CodeLimit} {
		s := impl.Store{Cells: doubled(n)}
		if got, code := impl.UnifyStore(s, structWord(0), structWord(0)); code != want || showStore(got) != showStore(s) {
			t.Errorf("%d doubled: %d", n, code)
		}
	}
	deep := impl.Store{Cells: nested(impl.MaxHeap/2, atomWord("a"))}
	for _, w := range []impl.Cell{structWord(0), structWord(2)} {
		want := map[int]int{0: impl.CodeOK, 2: impl.CodeFail}[w.N]
		if got, code := impl.UnifyStore(deep, structWord(0), w); code != want || len(got.Cells) != impl.MaxHeap {
			t.Errorf("deep, %s: %d", showWord(w), code)
		}
	}
}

// The bindings that Unify answers have bounds; those of a store have none but the trail.
func TestUnifyStoreBeyondUnify(t *testing.T) {
	const n = impl.MaxBindings + 500
	a, b := wideOf(atomTerm("a"), varsFrom(0, n)...), wideOf(atomTerm("a"), manyItems(n, atomTerm("c"))...)
	wantCode(t, "many bindings", a, b, impl.CodeLimit)
	wantAsUnify(t, "many bindings", a, b, impl.CodeOK)
	for _, towers := range []int{11, 64, 399} {
		left, right := tower(0, towers)
		wantCode(t, "a tower", listTerm(left...), listTerm(right...), impl.CodeLimit)
		wantAsUnify(t, "a tower", listTerm(left...), listTerm(right...), impl.CodeOK)
		wantAsUnify(t, "a circle of a tower", listEnding(varTerm(towers), left...), listEnding(compTerm("g", varTerm(0)), right...), impl.CodeCyclic)
	}
}

func TestUnifyStoreTrailBounds(t *testing.T) {
	const words = "f/4 @1 @2 @3 @4 f/4 a b c d"
	for left := range 6 {
		s := storeOf(words)
		s.Trail = trailTo(9, impl.MaxHeap-left)
		got, code := impl.UnifyStore(s, structWord(0), structWord(5))
		want, bound := storeOf(words), min(left, 4)
		for i := range bound {
			want.Cells[1+i] = want.Cells[6+i]
		}
		if (code == impl.CodeMemory) != (left < 4) || (code == impl.CodeOK) != (left >= 4) || showWords(got.Cells) != showWords(want.Cells) || len(got.Trail) != len(s.Trail)+bound {
			t.Errorf("%d left: %d with %d addresses, %s", left, code, len(got.Trail), showWords(got.Cells))
		}
		for i := range bound {
			if got.Trail[len(s.Trail)+i] != 1+i {
				t.Errorf("%d left: %v", left, got.Trail[len(s.Trail):])
			}
		}
	}
	// The trail is full at the pair that needs it: faults before it are told, and those behind it are not.
	for store, want := range map[string]int{
		"f/2 a @2 f/2 b c": impl.CodeFail, "f/2 @1 a f/2 c b": impl.CodeMemory, "f/2 @1 @2 f/2 &6 c g/1 @1": impl.CodeCyclic,
		"f/2 @1 @1 f/2 @1 @1": impl.CodeOK, "f/2 @1 a f/2 @1 b": impl.CodeFail, "f/2 @1 a f/2 @4 a": impl.CodeMemory,
	} {
		s := storeOf(store)
		s.Trail = trailTo(1, impl.MaxHeap)
		if got, code := impl.UnifyStore(s, structWord(0), structWord(3)); code != want || showStore(got) != showStore(s) {
			t.Errorf("%s with a full trail: %d, want %d", store, code, want)
		}
	}
}
