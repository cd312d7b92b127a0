package tests

import (
	"bytes"
	"testing"

	"loop.example/s00095/impl"
)

func allHold(checks []func() bool) func() bool {
	return func() bool {
		for _, check := range checks {
			if !check() {
				return false
			}
		}
		return true
	}
}

// lendLists lays terms amid spare ones, and answers a check that none of them was written into.
func lendLists(lists [][]impl.Cell) ([][]impl.Cell, func() bool) {
	spare := atomTerm("spare")
	all := [][]impl.Cell{spare}
	var checks []func() bool
	for _, x := range lists {
		cells, stays := lend(x)
		all, checks = append(all, cells), append(checks, stays)
	}
	all = append(all, spare, spare)
	before := showLists(all)
	checks = append(checks, func() bool { return showLists(all) == before })
	return all[1 : len(lists)+1], allHold(checks)
}

func lendProgram(p impl.Program) (impl.Program, func() bool) {
	goals, goalsStay := lendLists(p.Goals)
	checks := []func() bool{goalsStay}
	spare := pred("spare", 77)
	all := []impl.Pred{spare}
	for _, q := range p.Preds {
		name, nameStays := roomy(string(q.Name))
		clauses, clausesStay := lendLists(q.Clauses)
		all = append(all, impl.Pred{Name: name, Arity: q.Arity, Dynamic: q.Dynamic, Clauses: clauses})
		checks = append(checks, nameStays, clausesStay)
	}
	all = append(all, spare, spare)
	before := showProgram(programWith(all...))
	checks = append(checks, func() bool { return showProgram(programWith(all...)) == before })
	return impl.Program{Preds: all[1 : len(p.Preds)+1], Goals: goals}, allHold(checks)
}

func lendClauses(clauses []impl.Clause) ([]impl.Clause, func() bool) {
	spare := impl.Clause{Term: atomTerm("spare"), At: 77}
	all := []impl.Clause{spare}
	var checks []func() bool
	for _, c := range clauses {
		cells, stays := lend(c.Term)
		name, nameStays := roomy("Name")
		all = append(all, impl.Clause{Term: cells, Names: [][]byte{name, nil}, At: 5})
		checks = append(checks, stays, nameStays)
	}
	all = append(all, spare, spare)
	before := showClauses(all)
	checks = append(checks, func() bool { return showClauses(all) == before })
	return all[1 : len(clauses)+1], allHold(checks)
}

// programLists are all lists of cells of a program.
func programLists(p impl.Program) [][]impl.Cell {
	var all [][]impl.Cell
	for _, q := range p.Preds {
		all = append(all, q.Clauses...)
	}
	return append(all, p.Goals...)
}

func overwriteProgram(p impl.Program) {
	for _, cells := range programLists(p) {
		overwriteCells(cells)
	}
	preds := p.Preds[:cap(p.Preds)]
	for i := range preds {
		overwrite(preds[i].Name)
		clear(preds[i].Clauses[:cap(preds[i].Clauses)])
		preds[i] = impl.Pred{Arity: 99}
	}
	clear(p.Goals[:cap(p.Goals)])
}

// wantUnsharedProgram overwrites the lists of a program, one after the other, and asks that no other changes.
func wantUnsharedProgram(t *testing.T, what string, p impl.Program) {
	t.Helper()
	for i := range p.Preds {
		expected := copyProgram(p)
		overwrite(expected.Preds[i].Name)
		overwrite(p.Preds[i].Name)
		wantProgram(t, what+": a name is shared", p, expected)
	}
	names := showProgram(p)
	lists := programLists(p)
	copies := copyLists(lists)
	wantUnshared(t, what, lists)
	for i := range lists {
		copy(lists[i], copies[i])
	}
	if showProgram(p) != names {
		t.Errorf("%s: terms share a name", what)
	}
	for i := range p.Preds {
		expected := copyProgram(p)
		expected.Preds[i].Clauses = make([][]impl.Cell, len(expected.Preds[i].Clauses))
		clauses := p.Preds[i].Clauses
		clear(clauses[:cap(clauses)])
		wantProgram(t, what+": clauses are shared", p, expected)
	}
}

// memorySources have terms that an answer takes over as they are, and such that are made anew.
func memorySources() []string {
	return []string{
		"", "a.", "name(name, Name, Name).", "p(X) :- name(X, 'other name'), X, once(name).", ":- name(X), name.", ":- initialization((name ; name(name))).", ":- dynamic name/1, name/2, [name/3].", "name(1). name(2) :- !. name(3). :- dynamic name/1.",
		"s --> name, [name, other], {name}, !, \\+ name(name) ; X -> call(name).", "s(X), [name, X] --> \"text\".", "p(X, Y) :- ( name(X, name) -> \\+ name(Y) ; !, name(name) ), ( name ; \\+ !, name(X) ).",
		"p :- (name ; name), (name ; name). p :- (name -> name). :- (name ; name).", "a. 1.", "p :- 1.", ":- dynamic call/1.", "s --> 1.",
	}
}

func TestBodyAndGrammarMemory(t *testing.T) {
	var terms [][]impl.Cell
	for _, src := range memorySources() {
		for _, c := range clausesIn(src) {
			terms = append(terms, c.Term, compTerm("once", c.Term), compTerm(",", c.Term, c.Term), compTerm("forall", varTerm(3), c.Term))
			if c.Term[0].N == 2 {
				terms = append(terms, argTerms(c.Term)[1])
			}
		}
	}
	for _, x := range append(terms, nil, chain(impl.MaxCells+1)) {
		for what, translate := range map[string]translation{"NormalBody": impl.NormalBody, "TranslateGrammar": impl.TranslateGrammar} {
			lent, stays := lend(x)
			made, code := translate(lent)
			if !stays() {
				t.Errorf("%s of %.200s: written into", what, showCells(x))
			}
			before := showCells(made)
			overwriteCells(made)
			if !stays() {
				t.Errorf("%s of %.200s: the answer shares its memory", what, showCells(x))
			}
			made, _ = translate(lent)
			overwriteCells(lent)
			if showCells(made) != before {
				t.Errorf("%s of %.200s: the answer changes with it", what, showCells(x))
			}
			wantUnshared(t, what, [][]impl.Cell{made})
			if again, code2 := translate(x); showCells(again) != before || code2 != code {
				t.Errorf("%s of %.200s: another answer the second time", what, showCells(x))
			}
		}
	}
}

func TestReservedMemory(t *testing.T) {
	for _, name := range []string{"call", "name", "$a", "[]", ""} {
		lent, stays := roomy(name)
		if impl.IsReserved(lent, 1); !stays() {
			t.Errorf("%s: written into", name)
		}
	}
}

func TestBuildMemory(t *testing.T) {
	for _, src := range memorySources() {
		lent, stay := lendClauses(clausesIn(src))
		p, code, at := impl.BuildProgram(lent)
		if !stay() {
			t.Errorf("%s: written into", src)
		}
		before := showProgram(p)
		overwriteProgram(p)
		if !stay() {
			t.Errorf("%s: the answer shares its memory", src)
		}
		p, _, _ = impl.BuildProgram(lent)
		for i := range lent {
			overwriteCells(lent[i].Term)
			lent[i] = impl.Clause{}
		}
		if showProgram(p) != before {
			t.Errorf("%s: the answer changes with it", src)
		}
		wantUnsharedProgram(t, src, p)
		again, code2, at2 := impl.BuildProgram(clausesIn(src))
		if showProgram(again) != before || code2 != code || at2 != at {
			t.Errorf("%s: another answer the second time", src)
		}
	}
}

// memoryPrograms are those of the sources, and others that are not built from clauses, or not valid.
func memoryPrograms() []impl.Program {
	all := []impl.Program{soundProgram(), {Goals: goalTerms("name(X5,name)", "name")}, {Goals: goalTerms("1")}, programWith(pred("nl", 0))}
	for _, src := range memorySources() {
		p, _, _ := impl.BuildProgram(clausesIn(src))
		all = append(all, p)
	}
	text := []byte("shared")
	shared := []impl.Cell{{Kind: impl.TermComp, N: 2, Text: []byte(":-")}, {Kind: impl.TermAtom, Text: text}, {Kind: impl.TermAtom, Text: text}}
	clauses := [][]impl.Cell{shared, shared}
	return append(all, impl.Program{Preds: []impl.Pred{{Name: text, Clauses: clauses}}, Goals: clauses})
}

func TestProgramArgumentsStay(t *testing.T) {
	for _, p := range memoryPrograms() {
		lent, stays := lendProgram(p)
		ops, opsStay := lendOps(impl.DefaultOps())
		impl.ValidProgram(lent)
		text := impl.ShowProgram(ops, lent)
		low, _ := impl.LowerProgram(lent)
		if !stays() || !opsStay() {
			t.Errorf("%s: written into", showProgram(p))
		}
		overwrite(text)
		overwriteProgram(low)
		if !stays() || !opsStay() {
			t.Errorf("%s: an answer shares its memory", showProgram(p))
		}
	}
}

func TestProgramArgumentsAreNotKept(t *testing.T) {
	for _, p := range memoryPrograms() {
		lent, ops := copyProgram(p), impl.DefaultOps()
		text := impl.ShowProgram(ops, lent)
		low, code := impl.LowerProgram(lent)
		shown, lowered := bytes.Clone(text), showProgram(low)
		overwriteProgram(lent)
		overwriteOps(ops)
		if !bytes.Equal(text, shown) || showProgram(low) != lowered {
			t.Errorf("%s: an answer changes with it", showProgram(p))
		}
		overwrite(text)
		wantUnsharedProgram(t, lowered, low)
		again, code2 := impl.LowerProgram(p)
		if showProgram(again) != lowered || code2 != code || !bytes.Equal(impl.ShowProgram(impl.DefaultOps(), p), shown) {
			t.Errorf("%s: another answer the second time", showProgram(p))
		}
	}
}
