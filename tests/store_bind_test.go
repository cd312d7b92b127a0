package tests

import (
	"fmt"
	"testing"

	"loop.example/s00095/impl"
)

func wantBound(t *testing.T, store string, a int, w string, want string) {
	t.Helper()
	s, code := impl.BindCell(storeOf(store), a, storeWord(w))
	wantStore(t, fmt.Sprintf("%s, %d to %s", store, a, w), s, code, want)
}

func wantNotBound(t *testing.T, store string, a int, w string, want int) {
	t.Helper()
	s, code := impl.BindCell(storeOf(store), a, storeWord(w))
	wantNoStore(t, fmt.Sprintf("%s, %d to %s", store, a, w), s, code, want)
}

func TestBindToOtherWords(t *testing.T) {
	const store = "@0 7 a f/2 @0 b g/1 @7 &6 @9 @1 @2 @8"
	wantBound(t, store, 9, "5", "@0 7 a f/2 @0 b g/1 @7 &6 5 @1 @2 @8 |9")
	wantBound(t, store, 9, "-5", "@0 7 a f/2 @0 b g/1 @7 &6 -5 @1 @2 @8 |9")
	wantBound(t, store, 9, "other", "@0 7 a f/2 @0 b g/1 @7 &6 other @1 @2 @8 |9")
	wantBound(t, store, 9, "&3", "@0 7 a f/2 @0 b g/1 @7 &6 &3 @1 @2 @8 |9")
	wantBound(t, store, 0, "&6", "&6 7 a f/2 @0 b g/1 @7 &6 @9 @1 @2 @8 |0")
	wantBound(t, store, 7, "&3", "@0 7 a f/2 @0 b g/1 &3 &6 @9 @1 @2 @8 |7")
	// What a reference leads to is what the variable becomes, not the reference.
	wantBound(t, store, 9, "@1", "@0 7 a f/2 @0 b g/1 @7 &6 7 @1 @2 @8 |9")
	wantBound(t, store, 9, "@10", "@0 7 a f/2 @0 b g/1 @7 &6 7 @1 @2 @8 |9")
	wantBound(t, store, 9, "@11", "@0 7 a f/2 @0 b g/1 @7 &6 a @1 @2 @8 |9")
	wantBound(t, store, 9, "@12", "@0 7 a f/2 @0 b g/1 @7 &6 &6 @1 @2 @8 |9")
	wantBound(t, store, 9, "@5", "@0 7 a f/2 @0 b g/1 @7 &6 b @1 @2 @8 |9")
}

func TestBindVariables(t *testing.T) {
	const store = "@0 @1 f/2 @3 @0 @5 @5 @1 | 7"
	for _, pair := range [][2]int{{0, 1}, {0, 3}, {0, 5}, {1, 3}, {1, 5}, {3, 5}} {
		want := storeOf(store)
		want.Cells[pair[1]] = refWord(pair[0])
		want.Trail = append(want.Trail, pair[1])
		wantBound(t, store, pair[0], fmt.Sprint("@", pair[1]), showStore(want))
		wantBound(t, store, pair[1], fmt.Sprint("@", pair[0]), showStore(want))
	}
	wantBound(t, store, 0, "@6", "@0 @1 f/2 @3 @0 @0 @5 @1 |7 5")
	wantBound(t, store, 5, "@4", "@0 @1 f/2 @3 @0 @0 @5 @1 |7 5")
	wantBound(t, store, 5, "@7", "@0 @1 f/2 @3 @0 @1 @5 @1 |7 5")
	wantBound(t, store, 3, "@7", "@0 @1 f/2 @1 @0 @5 @5 @1 |7 3")
	wantBound(t, store, 0, "@7", "@0 @0 f/2 @3 @0 @5 @5 @1 |7 1")
	wantBound(t, "f/2 @1 @2", 2, "@1", "f/2 @1 @1 |2")
	wantBound(t, "@0 @1 | 1 1 0", 0, "@1", "@0 @0 |1 1 0 1")
}

func TestBindNotValid(t *testing.T) {
	const store = "@0 @0 7 f/2 @0 @5 &3 a"
	for _, a := range []int{-1, 1, 2, 3, 4, 6, 7, 8, 9, impl.MaxHeap, -impl.MaxHeap} {
		wantNotBound(t, store, a, "5", impl.CodeBad)
		wantNotBound(t, store, a, "@5", impl.CodeBad)
	}
	for _, w := range []string{"@0", "@1", "@4"} {
		wantNotBound(t, store, 0, w, impl.CodeBad)
	}
	wantNotBound(t, store, 5, "@5", impl.CodeBad)
	for _, w := range []string{"@-1", "@8", "@3", "&0", "&4", "&8", "&-1", "f/2", "f/0"} {
		wantNotBound(t, store, 0, w, impl.CodeBad)
	}
	for i, c := range badWords() {
		s, code := impl.BindCell(storeOf(store), 0, c)
		wantNoStore(t, fmt.Sprint("bad word ", i), s, code, impl.CodeBad)
	}
	for i, bad := range badStores() {
		s, code := impl.BindCell(bad, 0, intWord(5))
		wantNoStore(t, fmt.Sprint("bad store ", i), s, code, impl.CodeBad)
	}
	wantNotBound(t, "", 0, "5", impl.CodeBad)
}

func TestBindCyclic(t *testing.T) {
	const store = "@0 f/1 @0 g/2 a &1 &3 @7 h/3 &3 @6 @7 @0"
	for _, w := range []string{"&1", "&3", "@5", "@6", "&8", "@9", "@10"} {
		wantNotBound(t, store, 0, w, impl.CodeCyclic)
	}
	wantNotBound(t, store, 7, "&8", impl.CodeCyclic)
	wantBound(t, store, 7, "&3", "@0 f/1 @0 g/2 a &1 &3 &3 h/3 &3 @6 @7 @0 |7")
	wantBound(t, store, 7, "@6", "@0 f/1 @0 g/2 a &1 &3 &3 h/3 &3 @6 @7 @0 |7")
	// The variable of a compound that it is an argument of itself.
	wantNotBound(t, "f/1 @1", 1, "&0", impl.CodeCyclic)
	wantNotBound(t, "f/2 a @2 &0", 2, "@3", impl.CodeCyclic)
	wantBound(t, "f/1 @1 g/1 @3", 1, "&2", "f/1 &2 g/1 @3 |1")
}

func TestBindInGreatTerms(t *testing.T) {
	for _, n := range []int{2, 60, 6000} {
		cells := append(doubled(n), refWord(3*n))
		s, code := impl.BindCell(impl.Store{Cells: cells}, 3*n, structWord(0))
		if code != impl.CodeOK || len(s.Trail) != 1 || showWord(s.Cells[3*n]) != "&0" {
			t.Errorf("%d doubled: %d", n, code)
		}
		cells[3*n-1] = refWord(3 * n)
		s, code = impl.BindCell(impl.Store{Cells: cells}, 3*n, structWord(0))
		wantNoStore(t, fmt.Sprint(n, " doubled, with the variable"), s, code, impl.CodeCyclic)
	}
	const deep = impl.MaxHeap / 2
	s, code := impl.BindCell(impl.Store{Cells: nested(deep, refWord(2*deep-1))}, 2*deep-1, structWord(0))
	wantNoStore(t, "deep", s, code, impl.CodeCyclic)
	s, code = impl.BindCell(impl.Store{Cells: nested(deep, refWord(2*deep-1))}, 2*deep-1, structWord(2*deep-2))
	wantNoStore(t, "its own", s, code, impl.CodeCyclic)
}

func TestBindTrailBounds(t *testing.T) {
	for n, want := range map[int]int{0: impl.CodeOK, impl.MaxHeap - 1: impl.CodeOK, impl.MaxHeap: impl.CodeMemory} {
		for _, w := range []string{"7", "@1", "a", "&2", "@5"} {
			store := storeOf("@0 @1 f/1 @1 8 @4")
			store.Trail = trailTo(4, n)
			s, code := impl.BindCell(store, 0, storeWord(w))
			if want == impl.CodeOK {
				if code != want || len(s.Trail) != n+1 || s.Trail[n] != boolNumber(w == "@1") || n > 0 && s.Trail[n-1] != 4 {
					t.Errorf("%s behind %d addresses: %d with %d", w, n, code, len(s.Trail))
				}
			} else {
				wantNoStore(t, fmt.Sprintf("%s behind %d addresses", w, n), s, code, want)
			}
		}
	}
	full := storeOf("@0 f/1 @0")
	full.Trail = trailTo(0, impl.MaxHeap)
	s, code := impl.BindCell(full, 0, structWord(1))
	wantNoStore(t, "cyclic, with a full trail", s, code, impl.CodeCyclic)
	s, code = impl.BindCell(full, 0, refWord(2))
	wantNoStore(t, "the same, with a full trail", s, code, impl.CodeBad)
}
