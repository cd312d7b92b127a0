package tests

import (
	"fmt"
	"strings"
	"testing"

	"loop.example/s00095/impl"
)

// firstFresh is the number of the first variable that an effect may make, where a test asks for no other.
const firstFresh = 50

// The F of faults that many builtins tell.
const (
	badCode    = "representation_error(character_code)"
	badArity   = "representation_error(max_arity)"
	badDigits  = "syntax_error(illegal_number)"
	noEvalAtom = "type_error(evaluable,a/0)"
)

// builtinArities are all builtins, by their names.
var builtinArities = map[string]int{
	"true": 0, "fail": 0, "false": 0, "=": 2, `\=`: 2, "==": 2, `\==`: 2, "@<": 2, "@=<": 2, "@>": 2, "@>=": 2, "compare": 3,
	"var": 1, "nonvar": 1, "atom": 1, "integer": 1, "atomic": 1, "compound": 1, "callable": 1, "is_list": 1, "ground": 1,
	"is": 2, "=:=": 2, `=\=`: 2, "<": 2, "=<": 2, ">": 2, ">=": 2, "functor": 3, "arg": 3, "=..": 2, "copy_term": 2, "length": 2,
	"atom_length": 2, "atom_codes": 2, "atom_chars": 2, "char_code": 2, "number_codes": 2, "msort": 2, "sort": 2,
	"write": 1, "writeq": 1, "print": 1, "nl": 0, "tab": 1,
}

// showEffect tells all that Builtin answers.
func showEffect(e impl.Effect, code int) string {
	return fmt.Sprintf("%d left %s right %s error [%s] out %q", code, showLists(e.Left), showLists(e.Right), showCells(e.Error), e.Out)
}

func callBuiltin(name string, args ...[]impl.Cell) (impl.Effect, int) {
	return impl.Builtin(impl.DefaultOps(), []byte(name), args, firstFresh)
}

func showCall(name string, args ...[]impl.Cell) string {
	return name + " " + showLists(args)
}

func wantEffectOf(t *testing.T, want impl.Effect, wantCode int, name string, args ...[]impl.Cell) {
	t.Helper()
	for i, arg := range args {
		if !impl.ValidTerm(arg) {
			t.Fatalf("%s: argument %d is not a term", name, i)
		}
	}
	e, code := callBuiltin(name, args...)
	if got, wanted := showEffect(e, code), showEffect(want, wantCode); got != wanted {
		t.Errorf("%.300s:\n got %.600s\nwant %.600s", showCall(name, args...), got, wanted)
	}
}

// wantPair asks for one pair.
func wantPair(t *testing.T, left []impl.Cell, right []impl.Cell, name string, args ...[]impl.Cell) {
	t.Helper()
	wantEffectOf(t, impl.Effect{Left: [][]impl.Cell{left}, Right: [][]impl.Cell{right}}, impl.CodeOK, name, args...)
}

// wantNothing asks for a code alone.
func wantNothing(t *testing.T, code int, name string, args ...[]impl.Cell) {
	t.Helper()
	wantEffectOf(t, impl.Effect{}, code, name, args...)
}

func faultFrom(fault []impl.Cell, name string, arity int) impl.Effect {
	return impl.Effect{Error: compTerm("error", fault, compTerm("/", atomTerm(name), intTerm(arity)))}
}

// wantBuiltinFault asks for an F.
func wantBuiltinFault(t *testing.T, fault []impl.Cell, name string, args ...[]impl.Cell) {
	t.Helper()
	wantEffectOf(t, faultFrom(fault, name, len(args)), impl.CodeError, name, args...)
}

// effectOf reads what is wanted: `holds`, `fails`, `beyond`, `writes ..`, `fault F`, or terms that must be unified, such
// as `X1 <- a & X2 <- 0`.
func effectOf(want string, name string, arity int) (impl.Effect, int) {
	word, rest, _ := strings.Cut(want, " ")
	switch word {
	case "holds":
		return impl.Effect{}, impl.CodeOK
	case "fails":
		return impl.Effect{}, impl.CodeFail
	case "beyond":
		return impl.Effect{}, impl.CodeLimit
	case "writes":
		return impl.Effect{Out: []byte(rest)}, impl.CodeOK
	case "fault":
		return faultFrom(parsed(rest), name, arity), impl.CodeError
	}
	var e impl.Effect
	for _, pair := range strings.Split(want, " & ") {
		left, right, _ := strings.Cut(pair, " <- ")
		e.Left = append(e.Left, parsed(left))
		e.Right = append(e.Right, parsed(right))
	}
	return e, impl.CodeOK
}

// wantEffects takes goals as programs write them, their variables being X0, X1, .., and what effectOf reads.
func wantEffects(t *testing.T, cases map[string]string) {
	t.Helper()
	for src, text := range cases {
		goal := parsed(src)
		name, args := string(goal[0].Text), argTerms(goal)
		want, code := effectOf(text, name, len(args))
		wantEffectOf(t, want, code, name, args...)
	}
}

// wantSameEffects asks for one effect of many goals.
func wantSameEffects(t *testing.T, effect string, goals ...string) {
	t.Helper()
	for _, goal := range goals {
		wantEffects(t, map[string]string{goal: effect})
	}
}

// codesTerm is the list of the bytes of a text, as numbers.
func codesTerm(text string) []impl.Cell {
	return codesEnding(atomTerm("[]"), text)
}

func codesEnding(end []impl.Cell, text string) []impl.Cell {
	var items [][]impl.Cell
	for _, b := range []byte(text) {
		items = append(items, intTerm(int(b)))
	}
	return listEnding(end, items...)
}

// charsTerm is the list of the bytes of a text, as atoms.
func charsTerm(text string) []impl.Cell {
	var items [][]impl.Cell
	for i := range len(text) {
		items = append(items, atomTerm(text[i:i+1]))
	}
	return listTerm(items...)
}
