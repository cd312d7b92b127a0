package tests

import (
	"slices"
	"testing"

	"loop.example/s00095/impl"
)

// memoryRuns have names that stand in the program, the query, the answers, the ball and what is written.
func memoryRuns() []runs {
	const facts = ":- dynamic name/1. name(name). name('other name'). name(f(name, X)) :- X = name. rule(X, Y) :- name(X), name(Y). s --> [name], s. s --> []. "
	return []runs{
		{facts, "name(X)", ""},
		{facts, "rule(X, Y), writeq(X)", ""},
		{facts, "X = name, Y = f(X, name, Z)", ""},
		{facts, "throw(name(name, X, 'other name'))", ""},
		{facts, "catch(throw(name(name, X)), Y, true)", ""},
		{facts, "name(X), missing(name)", ""},
		{facts, "findall(X - name, name(X), L)", ""},
		{facts, "assertz(name(new(name))), retract(name(X)), name(Y)", ""},
		{facts, "assertz((rule2(X) :- name(X) ; X = name)), rule2(Y)", ""},
		{facts, "phrase(s, [name, name], X)", ""},
		{facts, "atom_codes(X, \"name\"), Y = X, write(name), nl, X =.. L", ""},
		{facts, "(name(X) -> Y = X ; Y = name)", ""},
		{facts, "3", ""},
	}
}

func outcomeLists(o impl.Outcome) [][]impl.Cell {
	var all [][]impl.Cell
	for _, a := range o.Answers {
		all = append(all, a.Terms...)
	}
	return append(all, o.Ball)
}

// wantUnsharedOutcome overwrites the lists of an outcome, one after the other, and asks that no other changes.
func wantUnsharedOutcome(t *testing.T, what string, o impl.Outcome) {
	t.Helper()
	out := string(o.Out)
	wantUnshared(t, what, outcomeLists(o))
	if string(o.Out) != out {
		t.Errorf("%s: what was written is shared", what)
	}
	before := showLists(outcomeLists(o))
	overwrite(o.Out)
	if showLists(outcomeLists(o)) != before {
		t.Errorf("%s: what was written is shared", what)
	}
	for i := range o.Answers {
		others := func() string {
			return showOutcome(impl.Outcome{Answers: slices.Concat(o.Answers[:i:i], o.Answers[i+1:]), Ball: o.Ball})
		}
		before := others()
		terms := o.Answers[i].Terms
		clear(terms[:cap(terms)])
		if others() != before {
			t.Errorf("%s: the terms of answer %d are shared", what, i)
		}
	}
}

// runner is RunMachine or Solve.
type runner func(ops []impl.Op, p impl.Program, query []impl.Cell) impl.Outcome

// wantOwnMemory asks that a run writes into nothing that it is given, and that its outcome shares nothing with that.
func wantOwnMemory(t *testing.T, c runs, run runner) {
	t.Helper()
	p, query := built(t, c.program), clauseTerm(c.query)
	want := showOutcome(run(impl.DefaultOps(), p, query))
	ops, opsStay := lendOps(impl.DefaultOps())
	lent, programStays := lendProgram(p)
	asked, queryStays := lend(query)
	o := run(ops, lent, asked)
	if showOutcome(o) != want {
		t.Errorf("%s: another outcome", c.query)
	}
	if !opsStay() || !programStays() || !queryStays() {
		t.Errorf("%s: written into", c.query)
	}
	overwriteOps(ops)
	overwriteProgram(lent)
	overwriteCells(asked)
	if showOutcome(o) != want {
		t.Errorf("%s: it changes with its arguments", c.query)
	}
	wantUnsharedOutcome(t, c.query, o)
	if again := run(impl.DefaultOps(), p, query); showOutcome(again) != want {
		t.Errorf("%s: another outcome the second time", c.query)
	}
}

// wantOwnAnswers overwrites an outcome and asks that nothing that was given changes.
func wantOwnAnswers(t *testing.T, c runs, run runner) {
	t.Helper()
	ops, opsStay := lendOps(impl.DefaultOps())
	lent, programStays := lendProgram(built(t, c.program))
	asked, queryStays := lend(clauseTerm(c.query))
	o := run(ops, lent, asked)
	overwrite(o.Out)
	for _, cells := range outcomeLists(o) {
		overwriteCells(cells)
	}
	if !opsStay() || !programStays() || !queryStays() {
		t.Errorf("%s: an answer shares memory with an argument", c.query)
	}
}

// machineRunner is RunMachine of ten answers.
func machineRunner(indexed bool) runner {
	return func(ops []impl.Op, p impl.Program, query []impl.Cell) impl.Outcome {
		return impl.RunMachine(ops, p, query, 10, 1000, indexed)
	}
}

func TestMachineMemory(t *testing.T) {
	for _, c := range memoryRuns() {
		wantOwnMemory(t, c, machineRunner(true))
		wantOwnMemory(t, c, machineRunner(false))
	}
}

func TestMachineAnswersAreNotArguments(t *testing.T) {
	for _, c := range memoryRuns() {
		wantOwnAnswers(t, c, machineRunner(true))
	}
}
