package tests

import (
	"fmt"
	"math"
	"slices"
	"strings"
	"testing"

	"loop.example/s00095/impl"
)

// otherNames are no builtins with any arity: control, parts of names, names in another case, and any bytes.
func otherNames() []string {
	return []string{
		",", ";", "->", `\+`, "once", "forall", "!", "call", "findall", "catch", "throw", "halt", "asserta", "assertz", "retract", "between", "phrase",
		":-", "-->", "|", "[]", "{}", ".", "$cut", "$level", "$mark", "", " ", "True", "TRUE", "true ", " true", "tru", "truee", "fals", "@", "@=>", "=@", "@<=", "<=", "=>",
		"===", "=:", "=.", "=...", `\`, `\===`, `=\==`, "compar", "float", "number", "list", "length ", "atom_length\x00", "atom_code", "codes", "char_codes", "number_chars",
		"keysort", "predsort", "sort0", "writeln", "write_canonical", "tabs", "n", "+", "-", "*", "mod", "abs", "op", "dynamic", "\x00", "\xff",
		strings.Repeat("n", impl.MaxAtom), strings.Repeat("n", impl.MaxAtom+1), strings.Repeat("true", 10000),
	}
}

func TestBuiltinConstants(t *testing.T) {
	if impl.MaxLength != 500 {
		t.Errorf("MaxLength is %d", impl.MaxLength)
	}
	if len(builtinArities) != 45 {
		t.Errorf("%d builtins", len(builtinArities))
	}
}

func TestIsBuiltin(t *testing.T) {
	for name, known := range builtinArities {
		for _, arity := range []int{math.MinInt, -3, -2, -1, 0, 1, 2, 3, 4, 5, 8, impl.MaxArity, impl.MaxArity + 1, 1 << 32, 1<<32 + 1, 1<<32 + 2, math.MaxInt} {
			if got := impl.IsBuiltin([]byte(name), arity); got != (arity == known) {
				t.Errorf("%s/%d: %v", name, arity, got)
			}
		}
	}
	for _, name := range otherNames() {
		for arity := -1; arity <= impl.MaxArity+1; arity++ {
			if impl.IsBuiltin([]byte(name), arity) {
				t.Errorf("%.60q/%d is one", name, arity)
			}
		}
	}
	if impl.IsBuiltin(nil, 0) || impl.IsBuiltin(nil, 2) {
		t.Errorf("no name is one")
	}
}

// wantBad asks for CodeBad and the zero Effect.
func wantBad(t *testing.T, what string, ops []impl.Op, name string, args [][]impl.Cell, fresh int) {
	t.Helper()
	if got := showEffect(impl.Builtin(ops, []byte(name), args, fresh)); got != showEffect(impl.Effect{}, impl.CodeBad) {
		t.Errorf("%.60q, %s: %.300s", name, what, got)
	}
}

func wantTaken(t *testing.T, what string, ops []impl.Op, name string, args [][]impl.Cell, fresh int) {
	t.Helper()
	if _, code := impl.Builtin(ops, []byte(name), args, fresh); code == impl.CodeBad {
		t.Errorf("%.60q, %s: CodeBad", name, what)
	}
}

func TestBuiltinNumberOfArguments(t *testing.T) {
	ops := impl.DefaultOps()
	for name, arity := range builtinArities {
		for n := range impl.MaxArity + 2 {
			if n == arity {
				wantTaken(t, fmt.Sprint(n, " arguments"), ops, name, ones(n), 0)
			} else {
				wantBad(t, fmt.Sprint(n, " arguments"), ops, name, ones(n), 0)
			}
		}
	}
	wantBad(t, "many arguments", ops, "true", ones(100000), 0)
	wantTaken(t, "an empty list of arguments", ops, "true", [][]impl.Cell{}, 0)
}

func TestBuiltinUnknownNames(t *testing.T) {
	for _, name := range otherNames() {
		for n := range 10 {
			wantBad(t, fmt.Sprint(n, " arguments"), impl.DefaultOps(), name, ones(n), 0)
		}
	}
}

func TestBuiltinBadTables(t *testing.T) {
	for name, arity := range builtinArities {
		for i, ops := range badTables() {
			wantBad(t, fmt.Sprint("table ", i), ops, name, ones(arity), 0)
		}
		for i, ops := range goodTables() {
			wantTaken(t, fmt.Sprint("table ", i), ops, name, ones(arity), 0)
		}
	}
}

// A term that is not valid is told wherever it stands, and ahead of what the others would lead to.
func TestBuiltinBadTerms(t *testing.T) {
	others := [][]impl.Cell{intTerm(1), varTerm(1), atomTerm("a"), parsed("f(X1)"), parsed("[a|X1]")}
	for name, arity := range builtinArities {
		for place := range arity {
			for i, bad := range badTerms() {
				args := slices.Repeat([][]impl.Cell{others[i%len(others)]}, arity)
				args[place] = bad
				wantBad(t, fmt.Sprintf("bad term %d as argument %d", i, place), impl.DefaultOps(), name, args, 0)
			}
		}
	}
}

func TestBuiltinFreshBounds(t *testing.T) {
	for name, arity := range builtinArities {
		for _, fresh := range []int{-1, -2, impl.MaxVar + 1, impl.MaxVar + 2, math.MinInt, math.MaxInt} {
			wantBad(t, fmt.Sprint("fresh ", fresh), impl.DefaultOps(), name, ones(arity), fresh)
		}
		for _, fresh := range []int{0, 1, firstFresh, impl.MaxVar - 1, impl.MaxVar} {
			wantTaken(t, fmt.Sprint("fresh ", fresh), impl.DefaultOps(), name, ones(arity), fresh)
		}
	}
}

// All that is wrong at once is CodeBad, too.
func TestBuiltinAllWrong(t *testing.T) {
	wantBad(t, "nothing right", nil, "", nil, -1)
	wantBad(t, "nothing right", []impl.Op{comma(), comma()}, "none", badTerms(), impl.MaxVar+1)
	wantBad(t, "table and term", nil, "var", [][]impl.Cell{nil}, 0)
	wantBad(t, "name and fresh", impl.DefaultOps(), "vax", [][]impl.Cell{varTerm(0)}, -1)
}
