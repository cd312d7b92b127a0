package tests

import (
	"bytes"
	"fmt"
	"slices"
	"testing"

	"loop.example/s00095/impl"
)

// codeChange writes into one list of code, all of its memory.
type codeChange func(c impl.Code)

func overwriteInts(list []int) {
	list = list[:cap(list)]
	for i := range list {
		list[i] += 5000
	}
}

// codeChanges are changes of each list that code has.
func codeChanges(c impl.Code) []codeChange {
	var all []codeChange
	for i := range c.Ins {
		all = append(all, func(c impl.Code) { overwrite(c.Ins[i].C.Text) })
		for k := range c.Ins[i].K {
			all = append(all, func(c impl.Code) { overwrite(c.Ins[i].K[k].Text) })
		}
		all = append(all, func(c impl.Code) { overwriteCells(c.Ins[i].K) }, func(c impl.Code) { overwriteInts(c.Ins[i].L) })
	}
	for i := range c.Procs {
		all = append(all, func(c impl.Code) { overwrite(c.Procs[i].Name) }, func(c impl.Code) { overwriteInts(c.Procs[i].Clauses) })
	}
	return append(all, func(c impl.Code) { clear(c.Procs[:cap(c.Procs)]) }, func(c impl.Code) { clear(c.Ins[:cap(c.Ins)]) })
}

func overwriteCode(c impl.Code) {
	for _, change := range codeChanges(c) {
		change(c)
	}
}

// wantUnsharedCode overwrites the lists of code, one after the other, and asks that no other changes.
func wantUnsharedCode(t *testing.T, what string, c impl.Code) {
	t.Helper()
	for i, change := range codeChanges(c) {
		expected := copyCode(c)
		change(expected)
		change(c)
		if showCode(c) != showCode(expected) {
			t.Errorf("%.300s: list %d of %d is shared", what, i, len(codeChanges(c)))
			return
		}
	}
}

// codeMemoryClauses have names that come again and again; not all are flat, and one needs too many registers.
func codeMemoryClauses() [][]impl.Cell {
	var all [][]impl.Cell
	for _, src := range []string{
		"name :- true", "name :- name", "name(name) :- name(name), name", "name(f(name,A,g(name,A),_),A,1) :- write(name), name(A,f(name,A,g(name,_))), nl, name(A)", "p(A) :- '$level'(B), name(A), '$cut'(B)", "p(name,name(name),name) :- A = name, name(A)",
		"p :- !", "p", "A :- true",
	} {
		all = append(all, clauseTerm(src))
	}
	return append(all, nil, chain(impl.MaxCells+1), rule(compTerm("p", within(atomTerm("name"), "name", 300)), atomTerm("true")))
}

func TestClauseMemory(t *testing.T) {
	for _, x := range codeMemoryClauses() {
		lent, stays := lend(x)
		classes, classCode := impl.ClassifyVars(lent)
		ins, code := impl.CompileClause(lent)
		if !stays() {
			t.Errorf("%.200s: written into", showCells(x))
		}
		beforeClasses, before := fmt.Sprint(classes, classCode), showIns(ins)
		overwriteInts(classes)
		overwriteCode(impl.Code{Ins: ins})
		if !stays() {
			t.Errorf("%.200s: an answer shares its memory", showCells(x))
		}
		classes, _ = impl.ClassifyVars(lent)
		ins, _ = impl.CompileClause(lent)
		overwriteCells(lent)
		if fmt.Sprint(classes, classCode) != beforeClasses || showIns(ins) != before {
			t.Errorf("%.200s: an answer changes with it", showCells(x))
		}
		wantUnsharedCode(t, showCells(x), impl.Code{Ins: ins})
		again, againCode := impl.CompileClause(x)
		classesAgain, classCodeAgain := impl.ClassifyVars(x)
		if showIns(again) != before || againCode != code || fmt.Sprint(classesAgain, classCodeAgain) != beforeClasses {
			t.Errorf("%.200s: another answer the second time", showCells(x))
		}
	}
}

// codeMemoryPrograms have one text in many places, and are not all sound.
func codeMemoryPrograms() []impl.Program {
	all := []impl.Program{{}, soundFlat(), flatProgram("name(name) :- name(name). name(name) :- true. name(name(name)) :- name. name(A) :- name(A). name :- true. name :- name."), programWith(pred("p", 0, "p :- !")), programWith(pred("p", 1), pred("p", 1))}
	for _, src := range memorySources() {
		p, _, _ := impl.BuildProgram(clausesIn(src))
		low, _ := impl.LowerProgram(p)
		all = append(all, low)
	}
	text := []byte("shared")
	atom := impl.Cell{Kind: impl.TermAtom, Text: text}
	shared := []impl.Cell{compCell(":-", 2), {Kind: impl.TermComp, N: 1, Text: text}, atom, {Kind: impl.TermComp, N: 1, Text: text}, atom}
	clauses := [][]impl.Cell{shared, shared}
	return append(all, impl.Program{Preds: []impl.Pred{{Name: text, Arity: 1, Clauses: clauses}}, Goals: clauses})
}

func TestLinkMemory(t *testing.T) {
	for _, p := range codeMemoryPrograms() {
		for _, indexed := range []bool{false, true} {
			lent, stays := lendProgram(p)
			c, code := impl.LinkProgram(lent, indexed)
			if !stays() {
				t.Errorf("%s: written into", showProgram(p))
			}
			before := showCode(c)
			overwriteCode(c)
			if !stays() {
				t.Errorf("%s: the answer shares its memory", showProgram(p))
			}
			copied := copyProgram(p)
			c, _ = impl.LinkProgram(copied, indexed)
			overwriteProgram(copied)
			if showCode(c) != before {
				t.Errorf("%s: the answer changes with it", showProgram(p))
			}
			wantUnsharedCode(t, showProgram(p), c)
			if again, codeAgain := impl.LinkProgram(p, indexed); showCode(again) != before || codeAgain != code {
				t.Errorf("%s: another answer the second time", showProgram(p))
			}
		}
	}
}

// lendCode lays code amid spare memory, and answers a check that none of it was written into.
func lendCode(c impl.Code) (impl.Code, func() bool) {
	spare := impl.Ins{Op: 77, R: 78, A: 79}
	ins := []impl.Ins{spare}
	var checks []func() bool
	for _, i := range c.Ins {
		text, textStays := roomy(string(i.C.Text))
		keys, keysStay := lend(i.K)
		i.C.Text, i.K, i.L = text, keys, slices.Grow(slices.Clone(i.L), 3)
		ins, checks = append(ins, i), append(checks, textStays, keysStay)
	}
	ins = append(ins, spare, spare)
	whole := impl.Code{Ins: ins}
	before := showCode(whole)
	checks = append(checks, func() bool { return showCode(whole) == before })
	return impl.Code{Ins: ins[1 : len(c.Ins)+1]}, allHold(checks)
}

func TestListMemory(t *testing.T) {
	codes := []impl.Code{{}, {Ins: codeOf("getconst name a0, getstruct name/1 a0, call name/2")}, {Ins: []impl.Ins{{Op: 99}}}, {Ins: []impl.Ins{{Op: 1}, {C: impl.Cell{Kind: 9}}}}}
	for _, p := range codeMemoryPrograms() {
		c, _ := impl.LinkProgram(p, true)
		codes = append(codes, c)
	}
	for _, c := range codes {
		lent, stays := lendCode(c)
		ops, opsStay := lendOps(impl.DefaultOps())
		text := impl.ListCode(ops, lent)
		if !stays() || !opsStay() {
			t.Errorf("%.300s: written into", showCode(c))
		}
		before := bytes.Clone(text)
		overwrite(text)
		if !stays() || !opsStay() {
			t.Errorf("%.300s: the answer shares its memory", showCode(c))
		}
		text = impl.ListCode(ops, lent)
		overwriteOps(ops)
		overwriteCode(lent)
		if !bytes.Equal(text, before) {
			t.Errorf("%.300s: the answer changes with it", showCode(c))
		}
		if again := impl.ListCode(impl.DefaultOps(), c); !bytes.Equal(again, before) {
			t.Errorf("%.300s: another answer the second time", showCode(c))
		}
	}
}
