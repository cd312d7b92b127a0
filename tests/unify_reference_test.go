package tests

import (
	"cmp"
	"slices"
	"testing"

	"loop.example/s00095/impl"
)

// leafyTerm has few names, so that two such terms often agree.
func leafyTerm(d *dice, depth int) []impl.Cell {
	leaves := [][]impl.Cell{atomTerm("a"), atomTerm("b"), intTerm(1)}
	if depth == 0 || d.below(4) == 0 {
		return leaves[d.below(len(leaves))]
	}
	args := make([][]impl.Cell, 1+d.below(3))
	for i := range args {
		args[i] = leafyTerm(d, depth-1)
	}
	return compTerm("f", args...)
}

// holed puts variables in the place of some of the terms within a term.
func holed(d *dice, cells []impl.Cell) []impl.Cell {
	var out []impl.Cell
	for len(cells) > 0 {
		size := firstSize(cells)
		if d.below(3) == 0 {
			out = append(out, varTerm(1+d.below(4))...)
			cells = cells[size:]
		} else {
			out = append(out, cells[0])
			cells = cells[1:]
		}
	}
	return copyTerm(out)
}

func standsIn(v int, x []impl.Cell) bool {
	return slices.ContainsFunc(x, func(c impl.Cell) bool { return c.Kind == impl.TermVar && c.N == v })
}

// argTerms are the arguments of a compound.
func argTerms(x []impl.Cell) [][]impl.Cell {
	var args [][]impl.Cell
	for rest := x[1:]; len(rest) > 0; {
		size := firstSize(rest)
		args, rest = append(args, rest[:size]), rest[size:]
	}
	return args
}

// refUnifier has the pairs that are left, and bindings; each variable that is bound is replaced in all of them at once.
type refUnifier struct {
	left [][2][]impl.Cell
	sub  []impl.Binding
}

func (u *refUnifier) bind(v int, x []impl.Cell) int {
	if standsIn(v, x) {
		return impl.CodeCyclic
	}
	one := []impl.Binding{bind(v, x)}
	for i, p := range u.left {
		u.left[i] = [2][]impl.Cell{refApply(one, p[0]), refApply(one, p[1])}
	}
	for i, b := range u.sub {
		u.sub[i].Term = refApply(one, b.Term)
	}
	u.sub = append(u.sub, one...)
	return impl.CodeOK
}

func (u *refUnifier) take(a []impl.Cell, b []impl.Cell) int {
	x, y := a[0], b[0]
	xIs, yIs := x.Kind == impl.TermVar, y.Kind == impl.TermVar
	switch {
	case xIs && yIs && x.N == y.N:
		return impl.CodeOK
	case xIs && (!yIs || x.N > y.N):
		return u.bind(x.N, b)
	case yIs:
		return u.bind(y.N, a)
	case showCells(a[:1]) != showCells(b[:1]):
		return impl.CodeFail
	}
	var pairs [][2][]impl.Cell
	others := argTerms(b)
	for i, arg := range argTerms(a) {
		pairs = append(pairs, [2][]impl.Cell{arg, others[i]})
	}
	u.left = slices.Concat(pairs, u.left)
	return impl.CodeOK
}

// refUnify is a second reading of chapter 5 for terms that are too small to come near its bounds.
func refUnify(a []impl.Cell, b []impl.Cell) ([]impl.Binding, int) {
	u := refUnifier{left: [][2][]impl.Cell{{a, b}}}
	for len(u.left) > 0 {
		p := u.left[0]
		u.left = u.left[1:]
		if code := u.take(p[0], p[1]); code != impl.CodeOK {
			return nil, code
		}
	}
	slices.SortFunc(u.sub, func(x impl.Binding, y impl.Binding) int { return cmp.Compare(x.Var, y.Var) })
	return u.sub, impl.CodeOK
}

// wantUnifier asks that a substitution makes both terms one, and that none of its variables stands in its terms.
func wantUnifier(t *testing.T, sub []impl.Binding, a []impl.Cell, b []impl.Cell) {
	t.Helper()
	one, oneCode := impl.Apply(sub, a)
	two, twoCode := impl.Apply(sub, b)
	again, againCode := impl.Apply(sub, one)
	if oneCode != impl.CodeOK || twoCode != impl.CodeOK || againCode != impl.CodeOK {
		t.Errorf("%s, %s by %s: %d %d %d", showCells(a), showCells(b), showSub(sub), oneCode, twoCode, againCode)
	}
	wantCells(t, showCells(a)+", "+showCells(b)+" made one", one, two)
	wantCells(t, showCells(a)+", "+showCells(b)+" applied again", again, one)
	for i, x := range sub {
		if i > 0 && sub[i-1].Var >= x.Var {
			t.Errorf("%s: not ascending", showSub(sub))
		}
		for _, y := range sub {
			if standsIn(x.Var, y.Term) {
				t.Errorf("%s: %d stands in a term", showSub(sub), x.Var)
			}
		}
	}
}

func TestUnifyReference(t *testing.T) {
	d := dice(54)
	codes := map[int]int{}
	for i := range 10000 {
		whole := leafyTerm(&d, 4)
		a, b := holed(&d, whole), holed(&d, whole)
		if i%4 == 0 {
			b = holed(&d, leafyTerm(&d, 4))
		}
		sub, code := unifies(t, a, b)
		want, wantCode := refUnify(a, b)
		if code != wantCode {
			t.Fatalf("%s, %s: %d, want %d", showCells(a), showCells(b), code, wantCode)
		}
		wantSub(t, showCells(a)+", "+showCells(b), sub, want)
		if code == impl.CodeOK {
			wantUnifier(t, sub, a, b)
		}
		codes[code]++
	}
	for _, code := range []int{impl.CodeOK, impl.CodeFail, impl.CodeCyclic} {
		if codes[code] < 500 {
			t.Errorf("code %d comes %d times, which is seldom", code, codes[code])
		}
	}
}

// twoVarTerms are terms of few cells over two variables.
func twoVarTerms() [][]impl.Cell {
	leaves := [][]impl.Cell{varTerm(0), varTerm(1), atomTerm("a"), atomTerm("b")}
	terms := slices.Clone(leaves)
	for _, x := range leaves {
		gx := compTerm("g", x)
		terms = append(terms, gx, compTerm("g", gx))
		for _, y := range leaves {
			terms = append(terms, compTerm("f", x, y), compTerm("f", gx, y), compTerm("f", x, compTerm("g", y)))
		}
	}
	return terms
}

// groundSubs put terms without variables in for both variables.
func groundSubs() [][]impl.Binding {
	a, b := atomTerm("a"), atomTerm("b")
	values := [][]impl.Cell{a, b}
	for _, x := range [][]impl.Cell{a, b} {
		values = append(values, compTerm("g", x), compTerm("g", compTerm("g", x)), compTerm("f", x, a), compTerm("f", compTerm("g", x), b))
	}
	var subs [][]impl.Binding
	for _, x := range values {
		for _, y := range values {
			subs = append(subs, []impl.Binding{bind(0, x), bind(1, y)})
		}
	}
	return subs
}

// Where Unify answers CodeOK, each substitution that makes both terms one can be made of its answer; else there is none.
func TestUnifyIsMostGeneral(t *testing.T) {
	terms, subs := twoVarTerms(), groundSubs()
	made := make([][]string, len(terms))
	for i, x := range terms {
		for _, sub := range subs {
			made[i] = append(made[i], showCells(refApply(sub, x)))
		}
	}
	unifiers := 0
	for i, a := range terms {
		for k, b := range terms {
			answer, code := impl.Unify(a, b)
			for n, sub := range subs {
				if made[i][n] != made[k][n] {
					continue
				}
				unifiers++
				if code != impl.CodeOK {
					t.Fatalf("%s, %s: %d, but %s", showCells(a), showCells(b), code, showSub(sub))
				}
				wantMadeOf(t, answer, sub)
			}
			if code == impl.CodeOK {
				wantUnifier(t, answer, a, b)
			}
		}
	}
	if unifiers < 5000 {
		t.Errorf("%d unifiers are few", unifiers)
	}
}

// wantMadeOf asks that the special substitution does the same behind the general one as alone.
func wantMadeOf(t *testing.T, general []impl.Binding, special []impl.Binding) {
	t.Helper()
	for _, b := range general {
		if alone := refApply(special, varTerm(b.Var)); showCells(refApply(special, b.Term)) != showCells(alone) {
			t.Fatalf("%s is not made of %s", showSub(special), showSub(general))
		}
	}
}

// hidden puts variables in for some of the terms that a substitution has for them.
func hidden(d *dice, sub []impl.Binding, cells []impl.Cell) []impl.Cell {
	var out []impl.Cell
	for len(cells) > 0 {
		size := firstSize(cells)
		at := slices.IndexFunc(sub, func(b impl.Binding) bool { return showCells(b.Term) == showCells(cells[:size]) })
		if at >= 0 && d.below(2) == 0 {
			out = append(out, varTerm(sub[at].Var)...)
			cells = cells[size:]
		} else {
			out = append(out, cells[0])
			cells = cells[1:]
		}
	}
	return copyTerm(out)
}

// Terms that are made of one by hiding parts of it behind variables are made one by these.
func TestUnifyFindsWhatIsHidden(t *testing.T) {
	d := dice(55)
	bindings := 0
	allToNine := parsedSub("X1=X9 X2=X9 X3=X9 X4=X9")
	for range 2000 {
		var sub []impl.Binding
		for v := range 5 {
			sub = append(sub, bind(v, refApply(allToNine, holed(&d, leafyTerm(&d, 2)))))
		}
		whole := refApply(sub, holed(&d, leafyTerm(&d, 4)))
		a, b := hidden(&d, sub, whole), hidden(&d, sub, whole)
		answer, code := unifies(t, a, b)
		if code != impl.CodeOK {
			t.Fatalf("%s, %s: %d, but %s", showCells(a), showCells(b), code, showSub(sub))
		}
		wantMadeOf(t, answer, sub)
		wantUnifier(t, answer, a, b)
		bindings += len(answer)
	}
	if bindings < 1000 {
		t.Errorf("%d bindings are few", bindings)
	}
}
