package tests

import (
	"slices"
	"strings"
	"testing"

	"loop.example/s00095/impl"
)

func wantReserved(t *testing.T, name string, arities ...int) {
	t.Helper()
	for arity := -3; arity <= impl.MaxArity+3; arity++ {
		want := slices.Contains(arities, arity)
		if got := impl.IsReserved([]byte(name), arity); got != want {
			t.Errorf("%q with %d: %v", name, arity, got)
		}
	}
}

func allArities() []int {
	var all []int
	for arity := range impl.MaxArity + 1 {
		all = append(all, arity)
	}
	return all
}

func TestReservedConstructs(t *testing.T) {
	for _, name := range []string{",", ";", "->", "forall"} {
		wantReserved(t, name, 2)
	}
	wantReserved(t, `\+`, 1)
	wantReserved(t, "once", 1)
	wantReserved(t, "!", 0)
}

func TestReservedPredicates(t *testing.T) {
	wantReserved(t, "call", 1, 2, 3, 4, 5, 6, 7, 8)
	for _, name := range []string{"findall", "catch", "between"} {
		wantReserved(t, name, 3)
	}
	for _, name := range []string{"throw", "asserta", "assertz", "retract"} {
		wantReserved(t, name, 1)
	}
	wantReserved(t, "halt", 0)
	wantReserved(t, "phrase", 2, 3)
}

func TestReservedBuiltins(t *testing.T) {
	for name, arity := range builtinArities {
		wantReserved(t, name, arity)
	}
}

func TestReservedOfClauses(t *testing.T) {
	wantReserved(t, ":-", 1, 2)
	wantReserved(t, "-->", 2)
	wantReserved(t, "?-")
}

func TestReservedWithAnyArity(t *testing.T) {
	for _, name := range []string{"|", "[]", "{}", "$", "$a", "$1", "$cut", "$level", "$ ", "$$", "$\x00", "$" + strings.Repeat("a", impl.MaxAtom-1)} {
		wantReserved(t, name, allArities()...)
	}
}

func TestNotReserved(t *testing.T) {
	for _, name := range []string{
		"", "a", "foo", "a$", " $", `\$`, "X$", "[", "]", "{", "}", "[ ]", "[]a", "||", "| ", ".", "dynamic", "initialization", "op", "not", "ignore", "member", "append",
		"Call", "CALL", "call ", " call", "cal", "calls", "assert", "findal", "bagof", "--", "->>", "<-", "!!", ",,", ";;", `\`, "+", "-", "*", "/", "\xff",
	} {
		wantReserved(t, name)
	}
}
