package tests

import (
	"testing"

	"loop.example/s00095/impl"
)

// evalMemoryTerms have values, and faults with names of the term in them; some are of one and the same text.
func evalMemoryTerms() [][]impl.Cell {
	shared := []byte("shared")
	return [][]impl.Cell{
		intTerm(7), varTerm(7), atomTerm("name"), atomTerm(""), parsed("1+2*3"), parsed("1+X0"), parsed("name(1,X2)"), parsed("2*(3-other(name))"),
		parsed("1//0"), parsed("1<<(-1)"), parsed("10^16"), parsed("7^(-1)"), parsed("[1,2]"), parsed("evaluable"), parsed("type_error(evaluable)"),
		{{Kind: impl.TermComp, N: 2, Text: shared}, {Kind: impl.TermAtom, Text: shared}, {Kind: impl.TermAtom, Text: shared}},
		{{Kind: impl.TermAtom, Text: shared}}, {{Kind: 9, Text: shared}}, {{Kind: impl.TermAtom, Text: shared}, {Kind: impl.TermAtom, Text: shared}}, nil,
	}
}

func TestEvalArgumentsStay(t *testing.T) {
	for _, x := range evalMemoryTerms() {
		arg, stays := lend(x)
		answer, _ := impl.Eval(arg)
		if !stays() {
			t.Errorf("%s: written into", showCells(x))
		}
		overwriteCells(answer)
		if !stays() {
			t.Errorf("%s: an answer shares its memory", showCells(x))
		}
	}
}

func TestEvalArgumentsAreNotKept(t *testing.T) {
	for _, x := range evalMemoryTerms() {
		arg := copyTerm(x)
		answer, code := impl.Eval(arg)
		before := showEval(answer, code)
		overwriteCells(arg)
		if showEval(answer, code) != before {
			t.Errorf("%s: an answer changes with it", showCells(x))
		}
		wantUnshared(t, "Eval", [][]impl.Cell{answer})
		// By now the first answer is overwritten, so a second one that shared its memory would be another.
		if again := showEval(impl.Eval(x)); again != before {
			t.Errorf("%s: %s the second time, %s the first", showCells(x), again, before)
		}
	}
}
