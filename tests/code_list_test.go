package tests

import (
	"bytes"
	"fmt"
	"math"
	"strings"
	"testing"

	"loop.example/s00095/impl"
)

// wantListed asks for the lines of instructions, without their addresses.
func wantListed(t *testing.T, ops []impl.Op, all []impl.Ins, lines ...string) {
	t.Helper()
	want := ""
	for at, line := range lines {
		want += fmt.Sprintf("%d %s\n", at, line)
	}
	if got := string(impl.ListCode(ops, impl.Code{Ins: all})); got != want {
		t.Errorf("%.300s:\n got %.2000q\nwant %.2000q", showIns(all), got, want)
	}
}

func atomCell(name string) impl.Cell {
	return atomTerm(name)[0]
}

func compCell(name string, arity int) impl.Cell {
	return impl.Cell{Kind: impl.TermComp, N: arity, Text: []byte(name)}
}

func TestListEachInstruction(t *testing.T) {
	lines := []string{
		"getvar x3 a5", "getval x3 a5", "getconst f/2 a5", "getstruct f/2 a5", "unifyvar x3", "unifyval x3", "unifyconst f/2", "unifyvoid", "putvar x3 a5", "putval x3 a5", "putconst f/2 a5",
		"putvoid a5", "putstruct f/2 x3", "setvar x3", "setval x3", "setconst f/2", "setvoid", "allocate a5", "deallocate", "call f/2", "execute f/2", "proceed", "builtin f/2", "level x3", "mark x3", "cut x3",
		"fail", "stop", "uncatch", "try a5", "retry a5", "trust a5", "switch a5",
	}
	var all []impl.Ins
	for op := range lines {
		all = append(all, impl.Ins{Op: op, R: 3, A: 5, C: compCell("f", 2), K: preorder("a b"), L: []int{7, 8}})
	}
	wantListed(t, impl.DefaultOps(), all, lines...)
	for op := range lines {
		all[op] = impl.Ins{Op: op}
	}
	zero := []string{
		"getvar x0 a0", "getval x0 a0", "getconst _0 a0", "getstruct ''/0 a0", "unifyvar x0", "unifyval x0", "unifyconst _0", "unifyvoid", "putvar x0 a0", "putval x0 a0", "putconst _0 a0",
		"putvoid a0", "putstruct ''/0 x0", "setvar x0", "setval x0", "setconst _0", "setvoid", "allocate a0", "deallocate", "call ''/0", "execute ''/0", "proceed", "builtin ''/0", "level x0", "mark x0", "cut x0",
		"fail", "stop", "uncatch", "try a0", "retry a0", "trust a0", "switch a0",
	}
	wantListed(t, impl.DefaultOps(), all, zero...)
}

func TestListNothing(t *testing.T) {
	if got := impl.ListCode(impl.DefaultOps(), impl.Code{}); len(got) != 0 {
		t.Errorf("%q", got)
	}
	if got := impl.ListCode(impl.DefaultOps(), impl.Code{Procs: []impl.Proc{procOf("p", 0, 3, 3)}}); len(got) != 0 {
		t.Errorf("%q", got)
	}
}

func TestListRegistersAndNumbers(t *testing.T) {
	for r, want := range map[int]string{0: "x0", 1: "x1", 255: "x255", 1000: "x1000", math.MaxInt: "x9223372036854775807", -1: "y0", -2: "y1", -300: "y299", math.MinInt: "y9223372036854775807"} {
		wantListed(t, impl.DefaultOps(), []impl.Ins{{Op: impl.InsSetVar, R: r}, {Op: impl.InsPutVal, R: r, A: 1}, {Op: impl.InsPutStruct, R: r, C: compCell("f", 1)}, {Op: impl.InsCut, R: r}},
			"setvar "+want, "putval "+want+" a1", "putstruct f/1 "+want, "cut "+want)
	}
	for a, want := range map[int]string{0: "a0", 19999: "a19999", -1: "a-1", math.MaxInt: "a9223372036854775807", math.MinInt: "a-9223372036854775808"} {
		wantListed(t, impl.DefaultOps(), []impl.Ins{{Op: impl.InsTry, A: a}, {Op: impl.InsGetVar, A: a}, {Op: impl.InsSwitch, A: a, R: 9}}, "try "+want, "getvar x0 "+want, "switch "+want)
	}
}

func TestListConstants(t *testing.T) {
	for _, c := range []struct {
		cell impl.Cell
		want string
	}{
		{atomCell("a"), "a"}, {atomCell("A b"), "'A b'"}, {atomCell(""), "''"}, {atomCell("[]"), "[]"}, {atomCell("{}"), "{}"}, {atomCell("."), "'.'"}, {atomCell("it's\n"), `'it\'s\n'`}, {atomCell("\x00\xff"), `'\x00\\xff\'`}, {atomCell("\\+"), `\+`}, {atomCell("+"), "+"}, {atomCell(","), "','"}, {atomCell("dynamic"), "dynamic"}, {atomCell(":-"), ":-"}, {atomCell("|"), "'|'"},
		{intTerm(0)[0], "0"}, {intTerm(7)[0], "7"}, {intTerm(-7)[0], "-7"}, {intTerm(impl.MaxInt)[0], "1000000000000000"}, {intTerm(-impl.MaxInt)[0], "-1000000000000000"}, {varTerm(0)[0], "_0"}, {varTerm(impl.MaxVar)[0], "_1000000"},
		{compCell("f", 1), "f/1"}, {compCell("A b", 20), "'A b'/20"}, {compCell("[]", 2), "[]/2"}, {compCell("{}", 1), "{}/1"}, {compCell(".", 2), "'.'/2"}, {compCell("-", 1), "-/1"}, {compCell("", 3), "''/3"}, {compCell(strings.Repeat("n", impl.MaxAtom), 1), strings.Repeat("n", impl.MaxAtom) + "/1"},
	} {
		wantListed(t, impl.DefaultOps(), []impl.Ins{{Op: impl.InsGetConst, C: c.cell}, {Op: impl.InsUnifyConst, C: c.cell}, {Op: impl.InsPutConst, C: c.cell, A: 4}, {Op: impl.InsSetConst, C: c.cell}},
			"getconst "+c.want+" a0", "unifyconst "+c.want, "putconst "+c.want+" a4", "setconst "+c.want)
	}
}

// These have a name and arity whatever their cell is.
func TestListNamesAndArities(t *testing.T) {
	for _, c := range []struct {
		cell impl.Cell
		want string
	}{
		{atomCell("q"), "q/0"}, {atomCell("A b"), "'A b'/0"}, {atomCell(""), "''/0"}, {atomCell("[]"), "[]/0"}, {compCell("q", 1), "q/1"}, {compCell(".", 2), "'.'/2"}, {compCell("/", 2), "//2"}, {compCell("$1", 20), "'$1'/20"}, {compCell("[]", 3), "[]/3"}, {compCell("=..", 2), "=../2"},
		{intTerm(7)[0], "''/7"}, {intTerm(-7)[0], "''/-7"}, {varTerm(3)[0], "''/3"},
	} {
		wantListed(t, impl.DefaultOps(), []impl.Ins{{Op: impl.InsGetStruct, C: c.cell, A: 2}, {Op: impl.InsPutStruct, C: c.cell, R: -1}, {Op: impl.InsCall, C: c.cell}, {Op: impl.InsExecute, C: c.cell}, {Op: impl.InsBuiltin, C: c.cell}},
			"getstruct "+c.want+" a2", "putstruct "+c.want+" y0", "call "+c.want, "execute "+c.want, "builtin "+c.want)
	}
}

func TestListTables(t *testing.T) {
	code := impl.Code{Ins: []impl.Ins{{Op: impl.InsGetConst, C: atomCell("is")}, {Op: impl.InsPutConst, C: intTerm(-1)[0]}, {Op: impl.InsCall, C: compCell("is", 2)}}}
	for _, ops := range goodTables() {
		wantListed(t, ops, code.Ins, "getconst is a0", "putconst -1 a0", "call is/2")
	}
	for _, ops := range badTables() {
		if got := impl.ListCode(ops, code); len(got) != 0 {
			t.Errorf("%.200s: %q", showOps(ops), got)
		}
	}
}

func TestListBadCode(t *testing.T) {
	sound := codeOf("getvar x0 a0, call p/1, proceed")
	var bad []impl.Ins
	for _, op := range []int{-1, 33, 34, 255, math.MaxInt, math.MinInt} {
		bad = append(bad, impl.Ins{Op: op})
	}
	for _, c := range badCells() {
		for op := range insWords {
			bad = append(bad, impl.Ins{Op: op, C: c})
		}
	}
	for _, arity := range []int{-1, 0, impl.MaxArity + 1, math.MaxInt} {
		for op := range insWords {
			bad = append(bad, impl.Ins{Op: op, C: compCell("f", arity)})
		}
	}
	bad = append(bad, impl.Ins{Op: impl.InsCall, C: compCell(strings.Repeat("n", impl.MaxAtom+1), 1)})
	for _, ins := range bad {
		for at := range len(sound) + 1 {
			all := append(append(append([]impl.Ins{}, sound[:at]...), ins), sound[at:]...)
			if got := impl.ListCode(impl.DefaultOps(), impl.Code{Ins: all}); len(got) != 0 {
				t.Errorf("%.300s at %d: %.200q", showIns([]impl.Ins{ins}), at, got)
			}
		}
	}
}

// The keys and addresses of a switch, and the predicates, are not looked at.
func TestListLooksAtInstructionsAlone(t *testing.T) {
	code := impl.Code{
		Ins:   []impl.Ins{{Op: impl.InsSwitch, A: 2, K: []impl.Cell{{Kind: 9}}, L: []int{-1, 2, 3}}, {Op: impl.InsTry, A: 70000, R: -70000}},
		Procs: []impl.Proc{{Arity: -1, At: -1, Clauses: []int{-5}}},
	}
	if got := string(impl.ListCode(impl.DefaultOps(), code)); got != "0 switch a2\n1 try a70000\n" {
		t.Errorf("%q", got)
	}
}

func TestListMaxCode(t *testing.T) {
	code := impl.Code{Ins: make([]impl.Ins, impl.MaxCode)}
	for i := range code.Ins {
		code.Ins[i] = impl.Ins{Op: impl.InsPutConst, A: i % 20, C: atomCell("a b")}
	}
	got := impl.ListCode(fullTable(impl.MaxOps), code)
	if n := bytes.Count(got, []byte("\n")); n != impl.MaxCode || !bytes.HasSuffix(got, []byte("\n19999 putconst 'a b' a19\n")) {
		t.Errorf("%d lines", n)
	}
	code.Ins = append(code.Ins, impl.Ins{Op: impl.InsProceed})
	if got := impl.ListCode(impl.DefaultOps(), code); len(got) != 0 {
		t.Errorf("one more: %d bytes", len(got))
	}
}

// ListCode has a line for each instruction, whatever the names are.
func TestListHasALineForEachInstruction(t *testing.T) {
	for _, name := range []string{"\n", "a\nb", " ", "\r", "'", "\\", "\x85", "a"} {
		p := programWith(impl.Pred{Name: []byte(name), Arity: 1, Clauses: [][]impl.Cell{
			rule(compTerm(name, atomTerm(name)), compTerm(name, compTerm(name, atomTerm(name)))),
			rule(compTerm(name, compTerm(name, atomTerm(name))), atomTerm(name), atomTerm("nl")),
		}})
		c := linked(t, name, p, true)
		lines := strings.Split(strings.TrimSuffix(string(impl.ListCode(impl.DefaultOps(), c)), "\n"), "\n")
		if len(lines) != len(c.Ins) {
			t.Fatalf("%q: %d lines, %d instructions", name, len(lines), len(c.Ins))
		}
		for at, line := range lines {
			word, _ := insFields(c.Ins[at].Op)
			if !strings.HasPrefix(line+" ", fmt.Sprintf("%d %s ", at, word)) {
				t.Errorf("%q: line %d is %q", name, at, line)
			}
		}
	}
}
