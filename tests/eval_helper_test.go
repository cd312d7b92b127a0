package tests

import (
	"fmt"
	"testing"

	"loop.example/s00095/impl"
)

const (
	instantiation = "instantiation_error"
	zeroDivisor   = "evaluation_error(zero_divisor)"
	undefined     = "evaluation_error(undefined)"
	intOverflow   = "evaluation_error(int_overflow)"
)

var (
	unaryNames  = []string{"-", "+", "abs", "sign", `\`}
	binaryNames = []string{"+", "-", "*", "min", "max", "//", "rem", "mod", ">>", "<<", `/\`, `\/`, "xor", "**", "^"}
)

// showEval tells all that Eval answers.
func showEval(answer []impl.Cell, code int) string {
	return fmt.Sprintf("%d [%s]", code, showCells(answer))
}

func wantEval(t *testing.T, what string, x []impl.Cell, want []impl.Cell, wantCode int) {
	t.Helper()
	if !impl.ValidTerm(x) {
		t.Fatalf("%.200s: not a term", what)
	}
	if got := showEval(impl.Eval(x)); got != showEval(want, wantCode) {
		t.Errorf("%.200s:\n got %s\nwant %s", what, got, showEval(want, wantCode))
	}
}

func wantValue(t *testing.T, what string, x []impl.Cell, want int) {
	t.Helper()
	wantEval(t, what, x, intTerm(want), impl.CodeOK)
}

// wantFaultTerm takes the error term as a program writes it.
func wantFaultTerm(t *testing.T, what string, x []impl.Cell, want string) {
	t.Helper()
	wantEval(t, what, x, parsed(want), impl.CodeError)
}

func wantValues(t *testing.T, cases map[string]int) {
	t.Helper()
	for src, want := range cases {
		wantValue(t, src, parsed(src), want)
	}
}

func wantFaultTerms(t *testing.T, fault string, sources ...string) {
	t.Helper()
	for _, src := range sources {
		wantFaultTerm(t, src, parsed(src), fault)
	}
}

// pairsOf are the arguments with which a function has these results.
type pairsOf map[[2]int]int

// wantPairs asks for the results of a function of two arguments.
func wantPairs(t *testing.T, name string, cases pairsOf) {
	t.Helper()
	for args, want := range cases {
		wantValue(t, fmt.Sprint(name, args), compTerm(name, intTerm(args[0]), intTerm(args[1])), want)
	}
}

// wantPairFaults asks for the same error term from a function of all these arguments.
func wantPairFaults(t *testing.T, name string, fault string, pairs ...[2]int) {
	t.Helper()
	for _, args := range pairs {
		wantFaultTerm(t, fmt.Sprint(name, args), compTerm(name, intTerm(args[0]), intTerm(args[1])), fault)
	}
}

// within puts a term into so many compounds of one argument.
func within(x []impl.Cell, name string, times int) []impl.Cell {
	var out []impl.Cell
	for range times {
		out = append(out, impl.Cell{Kind: impl.TermComp, N: 1, Text: []byte(name)})
	}
	return append(out, copyTerm(x)...)
}
