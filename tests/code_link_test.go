package tests

import (
	"fmt"
	"slices"
	"strings"
	"testing"

	"loop.example/s00095/impl"
)

// switchOf is an InsSwitch; keys are as words of preorder.
func switchOf(all int, none int, keys string, addresses ...int) impl.Ins {
	return impl.Ins{Op: impl.InsSwitch, A: all, R: none, K: preorder(keys), L: addresses}
}

func procOf(name string, arity int, at int, clauses ...int) impl.Proc {
	return impl.Proc{Name: []byte(name), Arity: arity, At: at, Clauses: clauses}
}

func dynamicProc(name string, arity int, clauses ...int) impl.Proc {
	p := procOf(name, arity, 0, clauses...)
	p.Dynamic = true
	return p
}

// wantLinked takes the code behind the first three instructions. A word `switch` alone stands for the next of the
// switches.
func wantLinked(t *testing.T, what string, p impl.Program, indexed bool, text string, switches []impl.Ins, procs ...impl.Proc) {
	t.Helper()
	want := impl.Code{Ins: codeOf("fail, stop, uncatch"), Procs: procs}
	for _, line := range strings.Split(text, ", ") {
		switch line {
		case "":
		case "switch":
			want.Ins, switches = append(want.Ins, switches[0]), switches[1:]
		default:
			want.Ins = append(want.Ins, insOf(line))
		}
	}
	if got := linked(t, what, p, indexed); showCode(got) != showCode(want) {
		t.Errorf("%.300s, indexed %v:\n got\n%.3000s\nwant\n%.3000s", what, indexed, showCode(got), showCode(want))
	}
}

// wantLinkedBoth asks for the same code with and without InsSwitch.
func wantLinkedBoth(t *testing.T, what string, p impl.Program, text string, procs ...impl.Proc) {
	t.Helper()
	for _, indexed := range []bool{false, true} {
		wantLinked(t, what, p, indexed, text, nil, procs...)
	}
}

func TestLinkWithoutSwitch(t *testing.T) {
	wantLinkedBoth(t, "nothing", impl.Program{}, "")
	wantLinkedBoth(t, "no clauses", programWith(pred("p", 0)), "", procOf("p", 0, 0))
	wantLinkedBoth(t, "no clauses", programWith(pred("p", 3)), "", procOf("p", 3, 0))
	wantLinkedBoth(t, "one clause", flatProgram("p :- true."), "proceed", procOf("p", 0, 3, 3))
	wantLinkedBoth(t, "one clause", flatProgram("p(a) :- true."), "getconst a a0, proceed", procOf("p", 1, 3, 3))
	wantLinkedBoth(t, "two without arguments", flatProgram("p :- q. p :- nl."), "try a5, trust a6, execute q/0, builtin nl/0, proceed", procOf("p", 0, 3, 5, 6))
	wantLinkedBoth(t, "four without arguments", flatProgram("p :- true. p :- true. p :- true. p :- true."), "try a7, retry a8, retry a9, trust a10, proceed, proceed, proceed, proceed", procOf("p", 0, 3, 7, 8, 9, 10))
	wantLinkedBoth(t, "predicates behind each other", flatProgram("p :- q. q(a) :- true. q :- p. p :- true."), "try a5, trust a6, execute q/0, proceed, getconst a a0, proceed, execute p/0", procOf("p", 0, 3, 5, 6), procOf("q", 1, 7, 7), procOf("q", 0, 9, 9))
	p := flatProgram("p :- true. r(b) :- true.")
	p.Preds = slices.Insert(p.Preds, 1, pred("none", 2), pred("no", 0))
	wantLinkedBoth(t, "no clauses between others", p, "proceed, getconst b a0, proceed", procOf("p", 0, 3, 3), procOf("none", 2, 0), procOf("no", 0, 0), procOf("r", 1, 4, 4))
	p = flatProgram("p(a) :- true. p(b) :- true. p(C) :- q(C). r(X,a) :- true. r(X,b) :- true.")
	wantLinked(t, "no index", p, false,
		"try a6, retry a8, trust a10, getconst a a0, proceed, getconst b a0, proceed, getvar x1 a0, putval x1 a0, execute q/1, try a15, trust a17, getconst a a1, proceed, getconst b a1, proceed",
		nil, procOf("p", 1, 3, 6, 8, 10), procOf("r", 2, 13, 15, 17))
}

func TestLinkDynamic(t *testing.T) {
	wantLinkedBoth(t, "no clauses", programWith(dynamicPred("d", 1)), "", dynamicProc("d", 1))
	wantLinkedBoth(t, "one clause", programWith(dynamicPred("d", 0, "d :- q")), "execute q/0", dynamicProc("d", 0, 3))
	wantLinkedBoth(t, "three clauses", programWith(dynamicPred("d", 1, "d(a) :- true", "d(b) :- true", "d(X0) :- q")), "getconst a a0, proceed, getconst b a0, proceed, execute q/0", dynamicProc("d", 1, 3, 5, 7))
	wantLinkedBoth(t, "amid others", programWith(pred("p", 0, "p :- d(a)"), dynamicPred("d", 1, "d(a) :- true", "d(a) :- true"), pred("q", 0, "q :- true", "q :- p")),
		"putconst a a0, execute d/1, getconst a a0, proceed, getconst a a0, proceed, try a11, trust a12, proceed, execute p/0", procOf("p", 0, 3, 3), dynamicProc("d", 1, 5, 7), procOf("q", 0, 9, 11, 12))
}

func TestLinkSwitch(t *testing.T) {
	wantLinked(t, "a key for each clause", flatProgram("p(a) :- true. p(b) :- true."), true,
		"switch, try a6, trust a8, getconst a a0, proceed, getconst b a0, proceed", []impl.Ins{switchOf(4, 0, "a b", 6, 8)}, procOf("p", 1, 3, 6, 8))
	wantLinked(t, "no keys", flatProgram("p(X) :- true. p(Y) :- q."), true,
		"switch, try a8, trust a9, try a8, trust a9, proceed, execute q/0", []impl.Ins{switchOf(4, 6, "")}, procOf("p", 1, 3, 8, 9))
	wantLinked(t, "one key", flatProgram("p(a) :- true. p(a) :- q."), true,
		"switch, try a8, trust a10, try a8, trust a10, getconst a a0, proceed, getconst a a0, execute q/0", []impl.Ins{switchOf(4, 0, "a", 6)}, procOf("p", 1, 3, 8, 10))
	wantLinked(t, "a variable first", flatProgram("p(X) :- true. p(a) :- true."), true,
		"switch, try a8, trust a9, try a8, trust a9, proceed, getconst a a0, proceed", []impl.Ins{switchOf(4, 8, "a", 6)}, procOf("p", 1, 3, 8, 9))
	wantLinked(t, "a variable last", flatProgram("p(a) :- true. p(X) :- true."), true,
		"switch, try a8, trust a10, try a8, trust a10, getconst a a0, proceed, proceed", []impl.Ins{switchOf(4, 10, "a", 6)}, procOf("p", 1, 3, 8, 10))
	wantLinked(t, "the other arguments play no part", flatProgram("p(X,a) :- true. p(b,X) :- true. p(b,a) :- true."), true,
		"switch, try a10, retry a12, trust a14, try a10, retry a12, trust a14, getconst a a1, proceed, getconst b a0, proceed, getconst b a0, getconst a a1, proceed",
		[]impl.Ins{switchOf(4, 10, "b", 7)}, procOf("p", 2, 3, 10, 12, 14))
}

// The chains stand in this order: all clauses, the keys by their first clauses, the clauses with none.
func TestLinkChains(t *testing.T) {
	wantLinked(t, "keys that are met again", flatProgram("p(b) :- true. p(a) :- true. p(b) :- true. p(a) :- true. p(b) :- true."), true,
		"switch, try a14, retry a16, retry a18, retry a20, trust a22, try a14, retry a18, trust a22, try a16, trust a20, getconst b a0, proceed, getconst a a0, proceed, getconst b a0, proceed, getconst a a0, proceed, getconst b a0, proceed",
		[]impl.Ins{switchOf(4, 0, "b a", 9, 12)}, procOf("p", 1, 3, 14, 16, 18, 20, 22))
	wantLinked(t, "clauses with no key between", flatProgram("p(a) :- true. p(X) :- true. p(a) :- true. p(f(Y)) :- true."), true,
		"switch, try a13, retry a15, retry a16, trust a18, try a13, retry a15, trust a16, try a15, trust a18, getconst a a0, proceed, proceed, getconst a a0, proceed, getstruct f/1 a0, unifyvoid, proceed",
		[]impl.Ins{switchOf(4, 15, "a f/1", 8, 11)}, procOf("p", 1, 3, 13, 15, 16, 18))
	wantLinked(t, "two with no key", flatProgram("p(X) :- true. p(a) :- true. p(Y) :- true. p(b) :- true."), true,
		"switch, try a16, retry a17, retry a19, trust a20, try a16, retry a17, trust a19, try a16, retry a19, trust a20, try a16, trust a19, proceed, getconst a a0, proceed, proceed, getconst b a0, proceed",
		[]impl.Ins{switchOf(4, 14, "a b", 8, 11)}, procOf("p", 1, 3, 16, 17, 19, 20))
	wantLinked(t, "two predicates", flatProgram("p(a) :- true. p(b) :- true. q(X) :- true. q(c) :- true. r :- true. r :- true."), true,
		"switch, try a6, trust a8, getconst a a0, proceed, getconst b a0, proceed, switch, try a15, trust a16, try a15, trust a16, proceed, getconst c a0, proceed, try a20, trust a21, proceed, proceed",
		[]impl.Ins{switchOf(4, 0, "a b", 6, 8), switchOf(11, 15, "c", 13)}, procOf("p", 1, 3, 6, 8), procOf("q", 1, 10, 15, 16), procOf("r", 0, 18, 20, 21))
}

// keysOf are the keys of a predicate p whose clauses have these first arguments.
func keysOf(t *testing.T, args ...string) string {
	t.Helper()
	q := pred("p", 1)
	for _, arg := range args {
		q.Clauses = append(q.Clauses, rule(compTerm("p", clauseTerm(arg)), atomTerm("true")))
	}
	c := linked(t, strings.Join(args, " "), programWith(q), true)
	if c.Ins[3].Op != impl.InsSwitch || len(c.Ins[3].K) != len(c.Ins[3].L) {
		t.Fatalf("%v: %s", args, showIns(c.Ins[3:4]))
	}
	return showCells(c.Ins[3].K)
}

func TestLinkKeys(t *testing.T) {
	for _, c := range []struct {
		args []string
		keys []string
	}{
		{[]string{"a", "b", "c"}, []string{"a", "b", "c"}}, {[]string{"c", "b", "a", "b", "c"}, []string{"c", "b", "a"}}, {[]string{"X", "Y"}, nil}, {[]string{"X", "a"}, []string{"a"}}, {[]string{"a", "X", "a", "b", "Y"}, []string{"a", "b"}},
		{[]string{"1", "-1", "0", "1"}, []string{"1", "-1", "0"}}, {[]string{"1000000000000000", "-1000000000000000"}, []string{"1000000000000000", "-1000000000000000"}},
		{[]string{"a", "f(X)", "f(Y)", "f(a)"}, []string{"a", "f/1"}}, {[]string{"f(a)", "f(a,b)", "f", "g(a)"}, []string{"f/1", "f/2", "f", "g/1"}}, {[]string{"f(g(a))", "f(g(b))", "g(f(a))"}, []string{"f/1", "g/1"}},
		{[]string{"[]", "[a]", "[b|X]", "'[]'(a)"}, []string{"[]", "./2", "[]/1"}}, {[]string{"'1'", "1", "'1'(1)"}, []string{`"1"`, "1", `"1"/1`}}, {[]string{"''", "''(a)", "''", "''(b)"}, []string{`""`, `""/1`}}, {[]string{"0", "''", "1", "''(a)", "0"}, []string{"0", `""`, "1", `""/1`}},
		{[]string{"a", "'A'", "'a b'", "'a b'(c)", "'a b'"}, []string{"a", "A", `"a b"`, `"a b"/1`}},
	} {
		var want []impl.Cell
		for _, word := range c.keys {
			want = append(want, cellOf(word))
		}
		if got := keysOf(t, c.args...); got != showCells(want) {
			t.Errorf("%v: keys %s, want %s", c.args, got, showCells(want))
		}
	}
}

// soundFlat has something of all that a program that is linked may have.
func soundFlat() impl.Program {
	return programWith(
		pred("p", 1, "p(a) :- true", "p(X0) :- '$level'(X1), q(X0,X1), '$cut'(X1)", "p(f(X0)) :- '$1'(X0)"), dynamicPred("q", 2, "q(X0,X1) :- true"), pred("p", 0, "p :- a, true"), pred("none", 20), dynamicPred("", 0),
		pred("$1", 1, "'$1'(X0) :- call(X0)", "'$1'(X0) :- fail"), pred("nl", 0, "nl :- true"), pred(",", 2, "(X0 , X1) :- X0 = X1"), pred(strings.Repeat("n", impl.MaxAtom), 1),
	)
}

func TestLinkTakesAnyNamesAndGoals(t *testing.T) {
	for _, indexed := range []bool{false, true} {
		without := linked(t, "sound", soundFlat(), indexed)
		p := soundFlat()
		p.Goals = append(manyItems(impl.MaxClauses, parsed("g(X3)")), nil, intTerm(7), []impl.Cell{{Kind: 9}}, parsed("'$a'"))
		if with := linked(t, "goals", p, indexed); showCode(with) != showCode(without) {
			t.Errorf("goals change the code:\n%s\n%s", showCode(with), showCode(without))
		}
	}
}

func TestLinkBadPrograms(t *testing.T) {
	for what, change := range map[string]func(p *impl.Program){
		"a name twice":                     func(p *impl.Program) { p.Preds[2].Arity, p.Preds[2].Clauses = 1, nil },
		"a name twice, once Dynamic":       func(p *impl.Program) { p.Preds = append(p.Preds, dynamicPred("p", 0)) },
		"a long name":                      func(p *impl.Program) { p.Preds[3].Name = []byte(strings.Repeat("m", impl.MaxAtom+1)) },
		"a long name, Dynamic":             func(p *impl.Program) { p.Preds[4].Name = []byte(strings.Repeat("m", impl.MaxAtom+1)) },
		"an arity below 0":                 func(p *impl.Program) { p.Preds[3].Arity = -1 },
		"an arity above MaxArity":          func(p *impl.Program) { p.Preds[3].Arity = impl.MaxArity + 1 },
		"an arity far above":               func(p *impl.Program) { p.Preds[4].Arity = 1 << 62 },
		"a head with another name":         func(p *impl.Program) { p.Preds[0].Clauses[0] = parsed("q(a) :- true") },
		"a last head with another name":    func(p *impl.Program) { p.Preds[0].Clauses[2] = parsed("q(a) :- true") },
		"a head with another arity":        func(p *impl.Program) { p.Preds[0].Clauses[1] = parsed("p(a,b) :- true") },
		"an atom as the head":              func(p *impl.Program) { p.Preds[0].Clauses[1] = parsed("p :- true") },
		"a compound as the head":           func(p *impl.Program) { p.Preds[2].Clauses[0] = parsed("p(a) :- true") },
		"an arity that is not the heads'":  func(p *impl.Program) { p.Preds[0].Arity = 3 },
		"a name that is not the heads'":    func(p *impl.Program) { p.Preds[0].Name = []byte("P") },
		"another head, Dynamic":            func(p *impl.Program) { p.Preds[1].Clauses[0] = parsed("r(X0,X1) :- true") },
		"no term, Dynamic":                 func(p *impl.Program) { p.Preds[1].Clauses[0] = nil },
		"not flat, Dynamic":                func(p *impl.Program) { p.Preds[1].Clauses[0] = parsed("q(X0,X1) :- !") },
		"not flat, in the last predicate":  func(p *impl.Program) { p.Preds[7].Clauses[0] = parsed("(X0 , X1) :- X0") },
		"other numbers":                    func(p *impl.Program) { p.Preds[1].Clauses[0] = parsed("q(X1,X0) :- true") },
		"a clause and more":                func(p *impl.Program) { p.Preds[2].Clauses[0] = append(parsed("p :- a"), atomTerm("b")...) },
		"a fact that is not a clause":      func(p *impl.Program) { p.Preds[2].Clauses[0] = parsed("p") },
		"one predicate more than MaxPreds": func(p *impl.Program) { p.Preds = append(p.Preds, emptyPreds(impl.MaxPreds+1-len(p.Preds))...) },
		"one clause more than MaxClauses":  func(p *impl.Program) { p.Preds[2].Clauses = manyItems(impl.MaxClauses+1-7, parsed("p :- a")) },
	} {
		p := soundFlat()
		change(&p)
		wantNotLinked(t, what, p, impl.CodeBad)
	}
	for _, x := range append(notClauses(), badTerms()...) {
		wantNotLinked(t, showCells(x), programWith(impl.Pred{Name: []byte("p"), Clauses: [][]impl.Cell{x}}), impl.CodeBad)
		wantNotLinked(t, showCells(x), programWith(impl.Pred{Name: []byte("p"), Arity: 1, Clauses: [][]impl.Cell{parsed("p(a) :- true"), x}}), impl.CodeBad)
	}
	for _, goal := range badGoals() {
		wantNotLinked(t, goal, programWith(impl.Pred{Name: []byte("p"), Clauses: [][]impl.Cell{clauseTerm("p :- true"), clauseTerm("p :- a, " + goal + ", b")}}), impl.CodeBad)
	}
}

func emptyPreds(n int) []impl.Pred {
	var all []impl.Pred
	for i := range n {
		all = append(all, pred(fmt.Sprintf("other%d", i), i%21))
	}
	return all
}

func TestLinkMaxPreds(t *testing.T) {
	p := programWith(emptyPreds(impl.MaxPreds)...)
	c := linked(t, "MaxPreds", p, true)
	if len(c.Procs) != impl.MaxPreds || len(c.Ins) != 3 {
		t.Errorf("%d predicates, %d instructions", len(c.Procs), len(c.Ins))
	}
	wantNotLinked(t, "one more than MaxPreds", programWith(emptyPreds(impl.MaxPreds+1)...), impl.CodeBad)
}

func TestLinkMaxClauses(t *testing.T) {
	with := func(facts int) impl.Program {
		p := programWith(impl.Pred{Name: []byte("p"), Clauses: manyItems(200, parsed("p :- true"))}, impl.Pred{Name: []byte("q"), Dynamic: true, Clauses: manyItems(200, parsed("q :- true"))})
		p.Preds = append(p.Preds, impl.Pred{Name: []byte("r"), Clauses: manyItems(facts, parsed("r :- true"))})
		return p
	}
	c := linked(t, "MaxClauses", with(impl.MaxClauses-400), true)
	if want := 3 + 2*200 + 200 + 2*100; len(c.Ins) != want {
		t.Errorf("%d instructions, want %d", len(c.Ins), want)
	}
	wantNotLinked(t, "one more than MaxClauses", with(impl.MaxClauses-400+1), impl.CodeBad)
}

// nlRule has so many instructions.
func nlRule(instructions int) []impl.Cell {
	if instructions == 1 {
		return parsed("p :- true")
	}
	return rule(atomTerm("p"), manyItems(instructions-1, atomTerm("nl"))...)
}

func TestLinkMaxCode(t *testing.T) {
	for _, isDynamic := range []bool{false, true} {
		with := func(last int) impl.Program {
			clauses := append(manyItems(194, nlRule(100)), nlRule(last))
			return programWith(impl.Pred{Name: []byte("p"), Dynamic: isDynamic, Clauses: clauses}, pred("none", 0))
		}
		room := impl.MaxCode - 3 - 194*100
		if !isDynamic {
			room -= 195
		}
		for _, indexed := range []bool{false, true} {
			if c := linked(t, "MaxCode", with(room), indexed); len(c.Ins) != impl.MaxCode {
				t.Errorf("Dynamic %v: %d instructions", isDynamic, len(c.Ins))
			}
		}
		wantNotLinked(t, "one more than MaxCode", with(room+1), impl.CodeLimit)
	}
}

func TestLinkMaxCodeOfChains(t *testing.T) {
	// Each key has a chain of its own clause and all that have none.
	with := func(keys int, none int, last int) impl.Program {
		q := impl.Pred{Name: []byte("p"), Arity: 1, Clauses: manyItems(none, parsed("p(X0) :- true"))}
		for i := range keys {
			q.Clauses = append(q.Clauses, rule(compTerm("p", intTerm(i)), atomTerm("true")))
		}
		return programWith(q, impl.Pred{Name: []byte("p"), Clauses: [][]impl.Cell{nlRule(last)}})
	}
	size := func(keys int, none int) int { return 3 + 1 + (keys + none) + keys*(1+none) + none + none + 2*keys }
	room := impl.MaxCode - size(200, 90)
	if c := linked(t, "MaxCode", with(200, 90, room), true); len(c.Ins) != impl.MaxCode {
		t.Errorf("%d instructions", len(c.Ins))
	}
	p := with(200, 90, room+1)
	if c, code := impl.LinkProgram(p, true); code != impl.CodeLimit || !isZeroCode(c) {
		t.Errorf("one more: %d", code)
	}
	if _, code := impl.LinkProgram(p, false); code != impl.CodeOK {
		t.Errorf("one more, not indexed: %d", code)
	}
	if c, code := impl.LinkProgram(with(250, 249, 1), true); code != impl.CodeLimit || !isZeroCode(c) {
		t.Errorf("far beyond: %d", code)
	}
}

func TestLinkLastRegister(t *testing.T) {
	with := func(registers int, isDynamic bool) impl.Program {
		deep := impl.Pred{Name: []byte("p"), Arity: 1, Dynamic: isDynamic, Clauses: [][]impl.Cell{parsed("p(a) :- true"), rule(compTerm("p", within(atomTerm("a"), "f", registers+1)), atomTerm("true"))}}
		return programWith(pred("q", 0, "q :- true"), deep, pred("r", 0, "r :- true"))
	}
	for _, isDynamic := range []bool{false, true} {
		linked(t, "X255", with(255, isDynamic), true)
		wantNotLinked(t, "X256", with(256, isDynamic), impl.CodeLimit)
	}
	// A fault of form counts ahead of one of size, wherever it stands.
	p := with(256, false)
	p.Preds[2].Clauses[0] = parsed("r :- !")
	wantNotLinked(t, "X256 ahead of a clause that is not flat", p, impl.CodeBad)
}

// Programs far beyond the limits are answered as soon as others.
func TestLinkFarBeyond(t *testing.T) {
	wide := rule(atomTerm("p"), manyItems(90, goalOf("q", 20))...)
	deep := rule(atomTerm("p"), compTerm("q", within(atomTerm("a"), "f", impl.MaxCells-4)))
	many := rule(atomTerm("p"), manyItems(998, atomTerm("nl"))...)
	for _, clause := range [][]impl.Cell{wide, deep, many} {
		wantNotLinked(t, "far beyond", programWith(impl.Pred{Name: []byte("p"), Clauses: manyItems(impl.MaxClauses, clause)}), impl.CodeLimit)
	}
}
