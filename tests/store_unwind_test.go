package tests

import (
	"fmt"
	"slices"
	"testing"

	"loop.example/s00095/impl"
)

func wantUnwind(t *testing.T, store string, mark int, top int, want string) {
	t.Helper()
	s, code := impl.Unwind(storeOf(store), mark, top)
	wantStore(t, fmt.Sprintf("%s to %d, %d", store, mark, top), s, code, want)
}

func wantNotUnwound(t *testing.T, store string, mark int, top int, want int) {
	t.Helper()
	s, code := impl.Unwind(storeOf(store), mark, top)
	wantNoStore(t, fmt.Sprintf("%s to %d, %d", store, mark, top), s, code, want)
}

func TestUnwind(t *testing.T) {
	const store = "5 @0 @2 f/2 @0 a &3 | 1 0 4"
	wantUnwind(t, store, 3, 7, "5 @0 @2 f/2 @0 a &3 |1 0 4")
	wantUnwind(t, store, 2, 7, "5 @0 @2 f/2 @4 a &3 |1 0")
	wantUnwind(t, store, 1, 7, "@0 @0 @2 f/2 @4 a &3 |1")
	wantUnwind(t, store, 0, 7, "@0 @1 @2 f/2 @4 a &3")
	wantUnwind(t, store, 0, 6, "@0 @1 @2 f/2 @4 a")
	wantUnwind(t, store, 0, 3, "@0 @1 @2")
	wantUnwind(t, store, 2, 3, "5 @0 @2 |1 0")
	wantUnwind(t, store, 1, 2, "@0 @0 |1")
	wantUnwind(t, store, 0, 1, "@0")
	wantUnwind(t, store, 0, 0, "")
	wantUnwind(t, "", 0, 0, "")
	wantUnwind(t, "a b f/1 c | 1 1 0 3 1", 2, 4, "@0 @1 f/1 @3 |1 1")
	wantUnwind(t, "a b f/1 c | 1 1 0 3 1", 4, 4, "a @1 f/1 c |1 1 0 3")
	// An address that is cut off may be in what is taken from the trail, and words that lead there may become variables.
	wantUnwind(t, "@2 f/1 a @3 | 0 3", 0, 1, "@0")
	wantUnwind(t, "&1 f/1 a @3 | 0 3", 0, 1, "@0")
}

func TestUnwindNotValid(t *testing.T) {
	const store = "5 @0 @2 f/2 @0 a &3 | 1 0 4"
	for _, c := range [][2]int{{-1, 7}, {4, 7}, {impl.MaxHeap, 7}, {0, -1}, {0, 8}, {0, impl.MaxHeap + 1}, {0, 4}, {0, 5}, {3, 4}, {3, 5}, {-1, 8}} {
		wantNotUnwound(t, store, c[0], c[1], impl.CodeBad)
	}
	for i, s := range badStores() {
		got, code := impl.Unwind(s, 0, 0)
		wantNoStore(t, fmt.Sprint("bad store ", i), got, code, impl.CodeBad)
	}
	wantNotUnwound(t, "", 1, 0, impl.CodeBad)
	wantNotUnwound(t, "", 0, 1, impl.CodeBad)
	for top := range 23 {
		want := impl.CodeOK
		if top > 1 && top < 22 {
			want = impl.CodeBad
		}
		cells := append([]impl.Cell{atomWord("a"), functorWord("f", impl.MaxArity)}, unboundFrom(2, impl.MaxArity)...)
		if got, code := impl.Unwind(impl.Store{Cells: cells}, 0, top); code != want || len(got.Cells) != top*boolNumber(want == impl.CodeOK) {
			t.Errorf("%d of the words of a functor: %d", top, code)
		}
	}
}

func TestUnwindFails(t *testing.T) {
	const store = "@2 &3 5 f/1 @6 @5 7 | 2 4 6"
	wantNotUnwound(t, store, 3, 6, impl.CodeFail)
	wantNotUnwound(t, store, 3, 5, impl.CodeFail)
	wantNotUnwound(t, store, 1, 3, impl.CodeFail)
	wantNotUnwound(t, store, 0, 2, impl.CodeFail)
	wantNotUnwound(t, store, 0, 1, impl.CodeFail)
	wantUnwind(t, store, 0, 0, "")
	wantNotUnwound(t, store, 1, 0, impl.CodeFail)
	wantUnwind(t, store, 1, 5, "@2 &3 5 f/1 @4 |2")
	wantNotUnwound(t, "@0 a | 1 0", 1, 1, impl.CodeFail)
	wantNotUnwound(t, "@1 a", 0, 1, impl.CodeFail)
	wantNotUnwound(t, "&1 f/1 a", 0, 1, impl.CodeFail)
	wantUnwind(t, "&1 f/1 a", 0, 3, "&1 f/1 a")
}

// refUnwind is a second reading for small stores.
func refUnwind(s impl.Store, mark int, top int) (impl.Store, int) {
	if mark < 0 || mark > len(s.Trail) || top < 0 || top > len(s.Cells) {
		return impl.Store{}, impl.CodeBad
	}
	for i, c := range s.Cells {
		if c.Kind == impl.WordFunctor && i < top && top <= i+c.N {
			return impl.Store{}, impl.CodeBad
		}
	}
	out := copyStore(s)
	for _, address := range out.Trail[mark:] {
		out.Cells[address] = refWord(address)
	}
	out = impl.Store{Cells: out.Cells[:top], Trail: out.Trail[:mark]}
	if !refValidStore(out) || slices.ContainsFunc(out.Trail, func(address int) bool { return address >= top }) {
		return impl.Store{}, impl.CodeFail
	}
	return out, impl.CodeOK
}

func TestUnwindReference(t *testing.T) {
	d := dice(109)
	codes := map[int]int{}
	for range 1000 {
		s := mixedStore(&d)
		for mark := -1; mark <= len(s.Trail)+1; mark++ {
			for top := -1; top <= len(s.Cells)+1; top++ {
				want, wantCode := refUnwind(s, mark, top)
				got, code := impl.Unwind(s, mark, top)
				if code != wantCode || showStore(got) != showStore(want) {
					t.Fatalf("%s to %d, %d: %d %s, want %d %s", showStore(s), mark, top, code, showStore(got), wantCode, showStore(want))
				}
				codes[code]++
			}
		}
	}
	wantOften(t, codes, impl.CodeOK, impl.CodeBad, impl.CodeFail)
}

func TestUnwindGreat(t *testing.T) {
	full := impl.Store{Cells: unbound(impl.MaxHeap)}
	bound := copyStore(full)
	for i := range bound.Cells {
		bound.Cells[i] = intWord(i)
		bound.Trail = append(bound.Trail, i)
	}
	wantUnwound(t, bound, full)
	for _, mark := range []int{0, 1, impl.MaxHeap - 1, impl.MaxHeap} {
		s, code := impl.Unwind(bound, mark, mark)
		if code != impl.CodeOK || len(s.Cells) != mark || len(s.Trail) != mark {
			t.Errorf("to %d: %d with %d words", mark, code, len(s.Cells))
		}
	}
}
