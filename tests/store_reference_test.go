package tests

import (
	"fmt"
	"slices"
	"testing"

	"loop.example/s00095/impl"
)

// wordsTerm is a term with variables of a store, and others.
func wordsTerm(d *dice, s impl.Store, depth int) []impl.Cell {
	switch kind := d.below(6); {
	case kind < 2:
		v := d.below(len(s.Cells) + 3)
		if v < len(s.Cells) && s.Cells[v].Kind == impl.WordFunctor {
			v = len(s.Cells) + d.below(3)
		}
		return varTerm(v)
	case kind == 2 || depth == 0:
		leaves := [][]impl.Cell{atomTerm("a"), atomTerm("b"), intTerm(1), intTerm(-1), atomTerm("f")}
		return leaves[d.below(len(leaves))]
	}
	args := make([][]impl.Cell, 1+d.below(3))
	for i := range args {
		args[i] = wordsTerm(d, s, depth-1)
	}
	return compTerm([]string{"f", "g"}[d.below(4)/3], args...)
}

// mixedStore has words that lead to each other in all the ways that valid stores may have. What leads to nothing is made
// first; then all is laid in another order.
func mixedStore(d *dice) impl.Store {
	var blocks [][]impl.Cell // words lead to blocks and places within them: N is 100 times the block, and the place
	for range 1 + d.below(7) {
		at := 100 * len(blocks)
		words := 1
		var block []impl.Cell
		if d.below(2) == 0 {
			words = 1 + d.below(3)
			block = append(block, functorWord("f", words))
		}
		for range words {
			block = append(block, mixedWord(d, blocks, at+len(block)))
		}
		blocks = append(blocks, block)
	}
	order := make([]int, len(blocks))
	for i := range order {
		k := d.below(i + 1)
		order[i], order[k] = order[k], i
	}
	begins := make([]int, len(blocks))
	var s impl.Store
	for _, b := range order {
		begins[b] = len(s.Cells)
		s.Cells = append(s.Cells, blocks[b]...)
	}
	for i, c := range s.Cells {
		if c.Kind == impl.WordRef || c.Kind == impl.WordStruct {
			s.Cells[i].N = begins[c.N/100] + c.N%100
		}
	}
	for i, c := range s.Cells {
		if c.Kind != impl.WordFunctor && d.below(3) == 0 {
			s.Trail = append(s.Trail, i)
		}
	}
	return s
}

func mixedWord(d *dice, blocks [][]impl.Cell, at int) impl.Cell {
	if d.below(3) == 0 {
		return refWord(at)
	}
	if len(blocks) == 0 || d.below(5) == 0 {
		return []impl.Cell{atomWord("a"), atomWord("b"), intWord(1), intWord(-1)}[d.below(4)]
	}
	to := d.below(len(blocks))
	if isFunctor := blocks[to][0].Kind == impl.WordFunctor; isFunctor && d.below(3) > 0 {
		return structWord(100 * to)
	} else if isFunctor {
		return refWord(100*to + 1 + d.below(len(blocks[to])-1))
	}
	return refWord(100 * to)
}

// anyWord is one that could stand in a store.
func anyWord(d *dice, s impl.Store) impl.Cell {
	var all []impl.Cell
	for i, c := range s.Cells {
		if c.Kind == impl.WordFunctor {
			all = append(all, structWord(i), structWord(i))
		} else {
			all = append(all, refWord(i))
		}
	}
	if len(all) == 0 || d.below(10) == 0 {
		return []impl.Cell{atomWord("a"), intWord(1)}[d.below(2)]
	}
	return all[d.below(len(all))]
}

// refStore is a second reading of chapter 10, for stores that are far from its bounds.
type refStore struct {
	impl.Store
}

func isSameWord(a impl.Cell, b impl.Cell) bool {
	return a.Kind == b.Kind && a.N == b.N && string(a.Text) == string(b.Text)
}

func (s *refStore) deref(w impl.Cell) impl.Cell {
	for w.Kind == impl.WordRef && !isSameWord(s.Cells[w.N], w) {
		w = s.Cells[w.N]
	}
	return w
}

func (s *refStore) term(w impl.Cell) []impl.Cell {
	w = s.deref(w)
	if w.Kind != impl.WordStruct {
		return []impl.Cell{w} // the kinds of words have the numbers of those of cells
	}
	var args [][]impl.Cell
	functor := s.Cells[w.N]
	for i := range functor.N {
		args = append(args, s.term(s.Cells[w.N+1+i]))
	}
	return compTerm(string(functor.Text), args...)
}

// put goes through the cells of a term, and through the places where they come to stand: in the same order.
func (s *refStore) put(x []impl.Cell) impl.Cell {
	top := len(s.Cells)
	fresh := map[int]int{}
	if x[0].Kind != impl.TermComp {
		if x[0].Kind == impl.TermVar && x[0].N >= top {
			s.Cells = append(s.Cells, refWord(top))
			return refWord(top)
		}
		return impl.Cell{Kind: x[0].Kind, N: x[0].N, Text: x[0].Text}
	}
	places := []int{-1}
	for _, c := range x {
		place := places[0]
		places = places[1:]
		w := c
		switch {
		case c.Kind == impl.TermVar && c.N >= top:
			if _, isKnown := fresh[c.N]; !isKnown {
				fresh[c.N] = place
			}
			w.N = fresh[c.N]
		case c.Kind == impl.TermComp:
			w = structWord(len(s.Cells))
			var inner []int
			s.Cells = append(s.Cells, functorWord(string(c.Text), c.N))
			for range c.N {
				inner = append(inner, len(s.Cells))
				s.Cells = append(s.Cells, impl.Cell{})
			}
			places = slices.Concat(inner, places)
		}
		if place >= 0 {
			s.Cells[place] = w
		}
	}
	return structWord(top)
}

func (s *refStore) bind(a int, v impl.Cell) int {
	changed, to := a, v
	if v.Kind == impl.WordRef {
		changed, to = max(a, v.N), refWord(min(a, v.N))
	} else if standsIn(a, s.term(v)) {
		return impl.CodeCyclic
	}
	s.Cells[changed] = to
	s.Trail = append(s.Trail, changed)
	return impl.CodeOK
}

func (s *refStore) unify(a impl.Cell, b impl.Cell) int {
	left := [][2]impl.Cell{{a, b}}
	for len(left) > 0 {
		a, b := s.deref(left[0][0]), s.deref(left[0][1])
		left = left[1:]
		code := impl.CodeOK
		switch {
		case isSameWord(a, b) && a.Kind != impl.WordStruct:
		case a.Kind == impl.WordRef:
			code = s.bind(a.N, b)
		case b.Kind == impl.WordRef:
			code = s.bind(b.N, a)
		case a.Kind == impl.WordStruct && b.Kind == impl.WordStruct && isSameWord(s.Cells[a.N], s.Cells[b.N]):
			var pairs [][2]impl.Cell
			for i := range s.Cells[a.N].N {
				pairs = append(pairs, [2]impl.Cell{s.Cells[a.N+1+i], s.Cells[b.N+1+i]})
			}
			left = slices.Concat(pairs, left)
		default:
			code = impl.CodeFail
		}
		if code != impl.CodeOK {
			return code
		}
	}
	return impl.CodeOK
}

func TestMixedStoresAreValid(t *testing.T) {
	d := dice(102)
	for range 2000 {
		s := mixedStore(&d)
		if w := anyWord(&d, s); !impl.ValidStore(s, w) || !refValidStore(s) {
			t.Fatalf("%s, %s", showStore(s), showWord(w))
		}
	}
}

func TestPutReference(t *testing.T) {
	d := dice(103)
	for range 5000 {
		s := mixedStore(&d)
		x := wordsTerm(&d, s, 4)
		want := refStore{copyStore(s)}
		wantWord := want.put(x)
		got, w, code := impl.PutTerm(s, x)
		wantStore(t, showStore(s)+" and "+showCells(x), got, code, showStore(want.Store))
		if showWord(w) != showWord(wantWord) {
			t.Errorf("%s and %s: %s, want %s", showStore(s), showCells(x), showWord(w), showWord(wantWord))
		}
		wantGet(t, showStore(got), got, w, want.term(wantWord))
	}
}

func TestDerefReference(t *testing.T) {
	d := dice(104)
	for range 5000 {
		s := mixedStore(&d)
		w, r := anyWord(&d, s), refStore{s}
		wantDeref(t, showStore(s), s, w, r.deref(w))
		wantGet(t, showStore(s), s, w, r.term(w))
	}
}

func TestBindReference(t *testing.T) {
	d := dice(105)
	codes := map[int]int{}
	for range 10000 {
		s := mixedStore(&d)
		a, w := d.below(len(s.Cells)+2)-1, anyWord(&d, s)
		want, wantCode := refStore{copyStore(s)}, impl.CodeBad
		isVariable := a >= 0 && a < len(s.Cells) && showWord(s.Cells[a]) == showWord(refWord(a))
		if v := want.deref(w); isVariable && showWord(v) != showWord(refWord(a)) {
			wantCode = want.bind(a, v)
		}
		if wantCode != impl.CodeOK {
			want.Store = impl.Store{}
		}
		got, code := impl.BindCell(s, a, w)
		if code != wantCode || showStore(got) != showStore(want.Store) {
			t.Fatalf("%s, %d to %s: %d %s, want %d %s", showStore(s), a, showWord(w), code, showStore(got), wantCode, showStore(want.Store))
		}
		codes[code]++
	}
	wantOften(t, codes, impl.CodeOK, impl.CodeCyclic, impl.CodeBad)
}

// wantOften asks that a test came to each of some codes.
func wantOften(t *testing.T, codes map[int]int, each ...int) {
	t.Helper()
	for _, code := range each {
		if codes[code] < 100 {
			t.Errorf("code %d comes %d times, which is seldom", code, codes[code])
		}
	}
}

func TestUnifyStoreReference(t *testing.T) {
	d := dice(106)
	codes := map[int]int{}
	for range 20000 {
		s := mixedStore(&d)
		a, b := anyWord(&d, s), anyWord(&d, s)
		want := refStore{copyStore(s)}
		wantCode := want.unify(a, b)
		got, code := impl.UnifyStore(s, a, b)
		if code != wantCode || showStore(got) != showStore(want.Store) {
			t.Fatalf("%s, %s and %s: %d %s, want %d %s", showStore(s), showWord(a), showWord(b), code, showStore(got), wantCode, showStore(want.Store))
		}
		wantSameAsUnify(t, s, a, b, got, code)
		wantUnwound(t, got, s)
		codes[code]++
	}
	wantOften(t, codes, impl.CodeOK, impl.CodeFail, impl.CodeCyclic)
}

// wantSameAsUnify asks that each variable stands for what Unify binds it to.
func wantSameAsUnify(t *testing.T, s impl.Store, a impl.Cell, b impl.Cell, got impl.Store, code int) {
	t.Helper()
	first, firstCode := impl.GetTerm(s, a)
	second, secondCode := impl.GetTerm(s, b)
	sub, wantCode := impl.Unify(first, second)
	if firstCode != impl.CodeOK || secondCode != impl.CodeOK || code != wantCode {
		t.Fatalf("%s, %s and %s: %d, by Unify %d", showStore(s), showWord(a), showWord(b), code, wantCode)
	}
	if code != impl.CodeOK {
		return
	}
	for v := range s.Cells {
		if s.Cells[v].Kind == impl.WordFunctor {
			continue
		}
		before, _ := impl.GetTerm(s, refWord(v))
		wantGet(t, fmt.Sprintf("%s, %s and %s", showStore(s), showWord(a), showWord(b)), got, refWord(v), refApply(sub, before))
	}
}

// wantUnwound asks that what became of a store is unwound to it.
func wantUnwound(t *testing.T, from impl.Store, to impl.Store) {
	t.Helper()
	back, code := impl.Unwind(from, len(to.Trail), len(to.Cells))
	wantStore(t, showStore(from)+" unwound", back, code, showStore(to))
}

// moment is a store of a run, with a word of its own.
type moment struct {
	store impl.Store
	word  impl.Cell
}

// A run of all the functions, one after the other, can be unwound to each store that it had.
func TestStoreRuns(t *testing.T) {
	d := dice(107)
	steps := map[string]int{}
	for range 500 {
		past := []moment{{word: atomWord("a")}}
		for range 40 {
			now := past[len(past)-1]
			next, what := nextMoment(t, &d, now, &past)
			steps[what]++
			if !impl.ValidStore(next.store, next.word) {
				t.Fatalf("%s, by %s of %s", showStore(next.store), what, showStore(now.store))
			}
			if what != "unwind" {
				past = append(past, next)
			}
		}
	}
	for _, what := range []string{"put", "bind", "unify", "unwind"} {
		if steps[what] < 500 {
			t.Errorf("%s comes %d times, which is seldom", what, steps[what])
		}
	}
}

func nextMoment(t *testing.T, d *dice, now moment, past *[]moment) (moment, string) {
	t.Helper()
	s := now.store
	switch d.below(8) {
	case 0, 1, 2:
		next, w, code := impl.PutTerm(s, wordsTerm(d, s, 3))
		if code != impl.CodeOK {
			t.Fatalf("%s: %d", showStore(s), code)
		}
		return moment{next, w}, "put"
	case 3, 4:
		for range 10 {
			if next, code := impl.BindCell(s, d.below(len(s.Cells)+1), anyWord(d, s)); code == impl.CodeOK {
				return moment{next, now.word}, "bind"
			}
		}
	case 5, 6:
		next, code := impl.UnifyStore(s, now.word, anyWord(d, s))
		if code == impl.CodeBad || code == impl.CodeLimit || code == impl.CodeMemory {
			t.Fatalf("%s: %d", showStore(s), code)
		}
		return moment{next, now.word}, "unify"
	}
	to := d.below(len(*past))
	*past = (*past)[:to+1]
	wantUnwound(t, s, (*past)[to].store)
	return (*past)[to], "unwind"
}

// spoiled is a store in which one thing or two may be wrong.
func spoiled(d *dice) impl.Store {
	s := mixedStore(d)
	for range d.below(3) {
		at := d.below(len(s.Cells))
		switch d.below(5) {
		case 0:
			s.Cells[at].N += d.below(7) - 3
		case 1:
			s.Cells[at].Kind = d.below(7) - 1
		case 2:
			s.Cells[at].Text = []byte("g")
		case 3:
			s.Cells = slices.Delete(s.Cells, at, at+1)
			s.Cells = append(s.Cells, badWords()[d.below(len(badWords()))])[:len(s.Cells)+d.below(2)]
		case 4:
			s.Trail = append(s.Trail, d.below(len(s.Cells)+2)-1)
		}
		if len(s.Cells) == 0 {
			return s
		}
	}
	return s
}

// wantBadTogether asks that all functions take what ValidStore says is valid, and nothing else.
func wantBadTogether(t *testing.T, s impl.Store, w impl.Cell) bool {
	t.Helper()
	isValid, isStore := impl.ValidStore(s, w), impl.ValidStore(s, intWord(1))
	_, deref := impl.Deref(s, w)
	_, get := impl.GetTerm(s, w)
	_, unify := impl.UnifyStore(s, intWord(1), w)
	_, turned := impl.UnifyStore(s, w, intWord(1))
	for i, code := range []int{deref, get, unify, turned} {
		if (code != impl.CodeBad) != isValid {
			t.Errorf("%s, %s: function %d answers %d", showStore(s), showWord(w), i, code)
		}
	}
	_, _, put := impl.PutTerm(s, atomTerm("a"))
	_, unwind := impl.Unwind(s, len(s.Trail), len(s.Cells))
	for i, code := range []int{put, unwind} {
		if (code == impl.CodeOK) != isStore || (code == impl.CodeBad) == isStore {
			t.Errorf("%s: function %d answers %d", showStore(s), i, code)
		}
	}
	for a := -1; a <= len(s.Cells); a++ {
		if _, code := impl.BindCell(s, a, w); !isValid && code != impl.CodeBad {
			t.Errorf("%s, %d to %s: %d", showStore(s), a, showWord(w), code)
		}
	}
	return isValid
}

func TestSpoiledStores(t *testing.T) {
	d := dice(110)
	counts := map[bool]int{}
	for range 20000 {
		s := spoiled(&d)
		w := impl.Cell{Kind: d.below(6) - d.below(8)/7, N: d.below(len(s.Cells) + 1)}
		if d.below(2) == 0 {
			w = anyWord(&d, s)
		}
		counts[wantBadTogether(t, s, w)]++
	}
	if counts[true] < 2000 || counts[false] < 2000 {
		t.Errorf("%v", counts)
	}
}
