package tests

import (
	"slices"
	"testing"

	"loop.example/s00095/impl"
)

func TestEvalSumBounds(t *testing.T) {
	const top = impl.MaxInt
	wantPairs(t, "+", pairsOf{
		{top, 0}: top, {0, top}: top, {top - 1, 1}: top, {1, top - 1}: top, {top / 2, top / 2}: top, {-top, 0}: -top, {1 - top, -1}: -top, {-top / 2, -top / 2}: -top, {top, -top}: 0,
	})
	wantPairFaults(t, "+", intOverflow, [2]int{top, 1}, [2]int{1, top}, [2]int{-top, -1}, [2]int{-1, -top}, [2]int{top, top}, [2]int{-top, -top}, [2]int{top/2 + 1, top / 2})
	wantPairs(t, "-", pairsOf{
		{top, 0}: top, {0, top}: -top, {0, -top}: top, {top - 1, -1}: top, {1 - top, 1}: -top, {-top, 0}: -top, {-1, top - 1}: -top, {top, top}: 0, {-top, -top}: 0,
	})
	wantPairFaults(t, "-", intOverflow, [2]int{top, -1}, [2]int{-top, 1}, [2]int{1, -top}, [2]int{-1, top}, [2]int{top, -top}, [2]int{-top, top})
	wantFaultTerm(t, `\ MaxInt`, compTerm(`\`, intTerm(top)), intOverflow)
}

func TestEvalProductBounds(t *testing.T) {
	const top = impl.MaxInt
	for x, y := range map[int]int{
		top: 1, 32768: 30517578125, 10: top / 10, 3125: 320000000000, 25000000: 40000000, 2: top / 2,
	} {
		wantPairs(t, "*", pairsOf{{x, y}: top, {y, x}: top, {-x, y}: -top, {x, -y}: -top, {-x, -y}: top, {-y, -x}: top})
	}
	// One beyond, a little beyond, and so far beyond that an int wraps round: to 1, to 0, to 2^63, to others.
	for x, y := range map[int]int{
		1001: 999000999001, 11: 90909090909091, 2: top/2 + 1, 3: top/3 + 1, 31622777: 31622777, 3037000500: 3037000500,
		274177: 67280421310721, 1 << 32: 1 << 32, 1 << 31: 1 << 32, 1 << 33: 1 << 31, 1 << 40: 1 << 24, 1 << 34: 1 << 29, top: top, top - 1: top, top / 2: 3,
	} {
		for _, signs := range [][2]int{{1, 1}, {1, -1}, {-1, 1}, {-1, -1}} {
			wantPairFaults(t, "*", intOverflow, [2]int{signs[0] * x, signs[1] * y}, [2]int{signs[0] * y, signs[1] * x})
		}
	}
}

func TestEvalQuotientBounds(t *testing.T) {
	const top = impl.MaxInt
	wantPairs(t, "//", pairsOf{{top, 1}: top, {top, -1}: -top, {-top, 1}: -top, {-top, -1}: top})
	wantPairs(t, "rem", pairsOf{{top - 1, top}: top - 1, {1 - top, top}: 1 - top, {1 - top, -top}: 1 - top, {top, 1}: 0, {-top, -1}: 0})
	wantPairs(t, "mod", pairsOf{{-1, top}: top - 1, {1, -top}: 1 - top, {top - 1, top}: top - 1, {1 - top, -top}: 1 - top, {top, 1}: 0, {-top, -1}: 0})
	wantPairs(t, "min", pairsOf{{top, top}: top, {-top, top}: -top})
	wantPairs(t, "max", pairsOf{{-top, -top}: -top, {-top, top}: top})
}

func TestEvalShiftBounds(t *testing.T) {
	const top = impl.MaxInt
	wantPairs(t, "<<", pairsOf{{30517578125, 15}: top, {-30517578125, 15}: -top, {top / 2, 1}: top, {-top / 2, 1}: -top, {top/2 - 1, 1}: top - 2, {61035156250, 14}: top})
	over := [][2]int{
		{top/2 + 1, 1}, {-top/2 - 1, 1}, {30517578126, 15}, {-30517578126, 15}, {61035156251, 14}, {top, 1}, {-top, 1}, {top, 49}, {top, 50}, {3, 49},
		{top, 15}, {1 << 49, 1}, {1 << 49, 14}, {1 << 49, 15}, {1 << 49, 16}, {-1 << 49, 14}, {-1 << 49, 15}, {32768, 49}, {65536, 48},
	}
	for _, y := range []int{50, 51, 60, 61, 62, 63, 64, 65, 127, 128, 255, 256, 1 << 31, 1 << 32, 1<<32 + 1, 1 << 49, top - 1, top} {
		over = append(over, [2]int{1, y}, [2]int{-1, y}, [2]int{2, y}, [2]int{-7, y}, [2]int{top, y}, [2]int{-top, y})
	}
	wantPairFaults(t, "<<", intOverflow, over...)
}

func TestEvalBitBounds(t *testing.T) {
	const (
		top  = impl.MaxInt
		high = 1 << 49
		rest = top - high
	)
	wantPairs(t, `/\`, pairsOf{{top, top}: top, {-1, top}: top, {-top, -top}: -top, {-top, -1}: -top, {-high - 1, -rest}: -top})
	wantPairs(t, `\/`, pairsOf{{high, rest}: top, {top, 0}: top, {top, top}: top, {-top, -top}: -top, {-top, 0}: -top, {high, rest - 1}: top - 1})
	wantPairs(t, "xor", pairsOf{{high, rest}: top, {top, 0}: top, {-1, -top}: top - 1, {0, -top}: -top, {-1, top - 1}: -top, {-high - 1, rest - 1}: -top})
	// One beyond, and as far beyond as bits can make it.
	wantPairFaults(t, `/\`, intOverflow, [2]int{-high - 1, -rest - 1}, [2]int{-rest - 1, -high - 1}, [2]int{-high - 1, -high})
	wantPairFaults(t, `\/`, intOverflow, [2]int{top, 1}, [2]int{1, top}, [2]int{high, rest + 1}, [2]int{high, high - 1})
	wantPairFaults(t, "xor", intOverflow, [2]int{top, 1}, [2]int{1, top}, [2]int{high, rest + 1}, [2]int{high, high - 1})
	wantPairFaults(t, "xor", intOverflow, [2]int{-1, top}, [2]int{top, -1}, [2]int{-high - 1, rest}, [2]int{-high - 1, high - 1})
}

func TestEvalPowerBounds(t *testing.T) {
	const top = impl.MaxInt
	for _, name := range []string{"**", "^"} {
		wantPairs(t, name, pairsOf{
			{10, 15}: top, {-10, 15}: -top, {1000, 5}: top, {-1000, 5}: -top, {100000, 3}: top, {-100000, 3}: -top, {top, 1}: top, {-top, 1}: -top,
			{99999, 3}: 999970000299999, {-99999, 3}: -999970000299999,
		})
		over := [][2]int{
			{10, 16}, {-10, 16}, {-10, 17}, {1001, 5}, {-1001, 5}, {100001, 3}, {-100001, 3}, {31622777, 2}, {-31622777, 2}, {2, 50}, {-2, 50}, {-2, 51},
			{3, 32}, {-3, 32}, {7, 18}, {-7, 19}, {top, 2}, {-top, 2}, {-top, 3}, {top - 1, 2}, {1 << 32, 2}, {1 << 16, 4}, {1 << 21, 3}, {-1 << 21, 3}, {1 << 31, 2}, {3037000500, 2},
		}
		for _, y := range []int{60, 62, 63, 64, 65, 100, 127, 128, 255, 256, 1 << 31, 1 << 32, 1 << 49, top - 1, top} {
			over = append(over, [2]int{2, y}, [2]int{-2, y}, [2]int{3, y}, [2]int{-7, y}, [2]int{10, y}, [2]int{16, y}, [2]int{top, y}, [2]int{-top, y})
		}
		wantPairFaults(t, name, intOverflow, over...)
	}
}

// A sum of ones that leans to one side has nearly as many cells as a term may have.
func onesSum(n int, leansRight bool) []impl.Cell {
	plus := impl.Cell{Kind: impl.TermComp, N: 2, Text: []byte("+")}
	var out []impl.Cell
	for range n - 1 {
		out = append(out, plus)
		if leansRight {
			out = append(out, intTerm(1)...)
		}
	}
	if leansRight {
		return append(out, intTerm(1)...)
	}
	return append(out, slices.Concat(ones(n)...)...)
}

func TestEvalDeep(t *testing.T) {
	const most = impl.MaxCells - 1
	for name, want := range map[string]int{"-": -7, "+": 7, "abs": 7, "sign": 1, `\`: -8} {
		wantValue(t, name+" often", within(intTerm(7), name, most), want)
		wantFaultTerm(t, name+" often, around a variable", within(varTerm(7), name, most), instantiation)
		wantFaultTerm(t, name+" often, around an atom", within(atomTerm("a"), name, most), "type_error(evaluable,a/0)")
		if answer, code := impl.Eval(within(intTerm(7), name, most+1)); code != impl.CodeBad || len(answer) != 0 {
			t.Errorf("%s too often: %s", name, showEval(answer, code))
		}
	}
	for _, leansRight := range []bool{false, true} {
		sum := onesSum(impl.MaxCells/2, leansRight)
		wantValue(t, "a deep sum", sum, impl.MaxCells/2)
		wantValue(t, "a deep sum within", compTerm("-", sum), -impl.MaxCells/2)
		if x := compTerm("-", sum); len(x) != impl.MaxCells {
			t.Errorf("%d cells", len(x))
		}
		last := len(sum) - 1
		for fault, end := range map[string]impl.Cell{
			instantiation: {Kind: impl.TermVar}, "type_error(evaluable,a/0)": {Kind: impl.TermAtom, Text: []byte("a")}, intOverflow: {Kind: impl.TermInt, N: impl.MaxInt},
		} {
			wantFaultTerm(t, "a deep sum with a fault", append(slices.Clone(sum[:last]), end), fault)
		}
	}
	wantFaultTerm(t, "an overflow deep within", within(parsed("10^16"), "-", impl.MaxCells-3), intOverflow)
	wantFaultTerm(t, "a name without a value around a deep term", compTerm("f", within(varTerm(1), "-", impl.MaxCells-2)), "type_error(evaluable,f/1)")
	wantFaultTerm(t, "a tower of powers", compTerm("^", intTerm(2), compTerm("^", intTerm(3), within(intTerm(40), "+", 1000))), intOverflow)
}

// A term that is not valid counts ahead of all faults, even where its part that is wrong would never be come to.
func TestEvalNotValid(t *testing.T) {
	bad := append(badTerms(),
		parsed("1+2")[:1], parsed("1+2")[:2], append(parsed("1+2"), intTerm(3)...), compTerm("+", ones(impl.MaxArity+1)...), within(intTerm(1), "-", impl.MaxCells))
	for i, x := range bad {
		for where, whole := range map[string][]impl.Cell{
			"alone": x, "behind a number": compTerm("+", intTerm(1), x), "behind a variable": compTerm("+", varTerm(0), x), "behind a name without a value": compTerm("foo", x),
			"behind a fault": compTerm("-", parsed("1//0"), x), "behind an overflow": compTerm("*", parsed("10^16"), x),
		} {
			if answer, code := impl.Eval(whole); code != impl.CodeBad || len(answer) != 0 {
				t.Errorf("bad term %d %s: %.200s", i, where, showEval(answer, code))
			}
		}
	}
}
