package tests

import (
	"fmt"
	"testing"

	"loop.example/s00095/impl"
)

func TestEvalNumbers(t *testing.T) {
	for _, n := range []int{0, 1, -1, 7, -7, 1 << 31, -1 << 31, 1 << 32, impl.MaxInt - 1, impl.MaxInt, 1 - impl.MaxInt, -impl.MaxInt} {
		wantValue(t, fmt.Sprint(n), intTerm(n), n)
	}
}

func TestEvalUnary(t *testing.T) {
	const top = impl.MaxInt
	for name, cases := range map[string]map[int]int{
		"-":    {0: 0, 1: -1, -1: 1, 7: -7, -7: 7, top: -top, -top: top},
		"+":    {0: 0, 1: 1, -1: -1, 7: 7, -7: -7, top: top, -top: -top},
		"abs":  {0: 0, 1: 1, -1: 1, 7: 7, -7: 7, top: top, -top: top},
		"sign": {0: 0, 1: 1, -1: -1, 7: 1, -7: -1, top: 1, -top: -1},
		`\`:    {0: -1, -1: 0, 1: -2, -2: 1, 5: -6, -6: 5, 255: -256, top - 1: -top, -top: top - 1},
	} {
		for x, want := range cases {
			wantValue(t, fmt.Sprint(name, " of ", x), compTerm(name, intTerm(x)), want)
		}
	}
}

func TestEvalSums(t *testing.T) {
	wantPairs(t, "+", pairsOf{
		{0, 0}: 0, {0, 4}: 4, {4, 0}: 4, {0, -4}: -4, {-4, 0}: -4, {3, 4}: 7, {-3, 4}: 1, {3, -4}: -1, {-3, -4}: -7, {4, -4}: 0,
	})
	wantPairs(t, "-", pairsOf{
		{0, 0}: 0, {0, 4}: -4, {4, 0}: 4, {0, -4}: 4, {-4, 0}: -4, {3, 4}: -1, {-3, 4}: -7, {3, -4}: 7, {-3, -4}: 1, {4, 4}: 0,
	})
	wantPairs(t, "*", pairsOf{
		{0, 0}: 0, {0, 4}: 0, {4, 0}: 0, {0, -4}: 0, {-4, 0}: 0, {3, 4}: 12, {-3, 4}: -12, {3, -4}: -12, {-3, -4}: 12, {1, 4}: 4, {4, -1}: -4,
	})
}

func TestEvalMinMax(t *testing.T) {
	const top = impl.MaxInt
	for args, want := range map[[2]int][2]int{
		{0, 0}: {0, 0}, {0, 4}: {0, 4}, {4, 0}: {0, 4}, {0, -4}: {-4, 0}, {-4, 0}: {-4, 0}, {3, 4}: {3, 4}, {4, 3}: {3, 4},
		{-3, 4}: {-3, 4}, {3, -4}: {-4, 3}, {-3, -4}: {-4, -3}, {-4, -4}: {-4, -4}, {top, -top}: {-top, top}, {top - 1, top}: {top - 1, top},
	} {
		wantPairs(t, "min", pairsOf{args: want[0]})
		wantPairs(t, "max", pairsOf{args: want[1]})
	}
}

func TestEvalDivision(t *testing.T) {
	const top = impl.MaxInt
	// What // , rem and mod answer, at each pair of signs, with a rest and without one.
	for args, want := range map[[2]int][3]int{
		{7, 2}: {3, 1, 1}, {-7, 2}: {-3, -1, 1}, {7, -2}: {-3, 1, -1}, {-7, -2}: {3, -1, -1},
		{6, 3}: {2, 0, 0}, {-6, 3}: {-2, 0, 0}, {6, -3}: {-2, 0, 0}, {-6, -3}: {2, 0, 0},
		{8, 5}: {1, 3, 3}, {-8, 5}: {-1, -3, 2}, {8, -5}: {-1, 3, -2}, {-8, -5}: {1, -3, -3},
		{2, 5}: {0, 2, 2}, {-2, 5}: {0, -2, 3}, {2, -5}: {0, 2, -3}, {-2, -5}: {0, -2, -2},
		{5, 5}: {1, 0, 0}, {-5, 5}: {-1, 0, 0}, {5, -5}: {-1, 0, 0}, {-5, -5}: {1, 0, 0},
		{0, 5}: {0, 0, 0}, {0, -5}: {0, 0, 0}, {9, 1}: {9, 0, 0}, {9, -1}: {-9, 0, 0}, {-9, 1}: {-9, 0, 0}, {-9, -1}: {9, 0, 0},
		{top, 3}: {333333333333333, 1, 1}, {-top, 3}: {-333333333333333, -1, 2}, {top, -3}: {-333333333333333, 1, -2}, {-top, -3}: {333333333333333, -1, -1},
		{1, top}: {0, 1, 1}, {-1, top}: {0, -1, top - 1}, {1, -top}: {0, 1, 1 - top}, {-1, -top}: {0, -1, -1},
		{top, top}: {1, 0, 0}, {-top, top}: {-1, 0, 0}, {top - 1, top}: {0, top - 1, top - 1}, {1 - top, top}: {0, 1 - top, 1},
		{top, top - 1}: {1, 1, 1}, {-top, top - 1}: {-1, -1, top - 2}, {top, 1 - top}: {-1, 1, 2 - top},
	} {
		wantPairs(t, "//", pairsOf{args: want[0]})
		wantPairs(t, "rem", pairsOf{args: want[1]})
		wantPairs(t, "mod", pairsOf{args: want[2]})
	}
	for _, name := range []string{"//", "rem", "mod"} {
		wantPairFaults(t, name, zeroDivisor, [2]int{0, 0}, [2]int{1, 0}, [2]int{-1, 0}, [2]int{7, 0}, [2]int{top, 0}, [2]int{-top, 0})
	}
}

func TestEvalShifts(t *testing.T) {
	const top = impl.MaxInt
	wantPairs(t, ">>", pairsOf{
		{0, 0}: 0, {5, 0}: 5, {-5, 0}: -5, {top, 0}: top, {-top, 0}: -top, {0, 1}: 0, {0, top}: 0,
		{5, 1}: 2, {-5, 1}: -3, {4, 1}: 2, {-4, 1}: -2, {1024, 3}: 128, {-1024, 3}: -128, {1023, 3}: 127, {-1023, 3}: -128,
		{1, 1}: 0, {-1, 1}: -1, {5, 3}: 0, {-5, 3}: -1, {1, 62}: 0, {1, 63}: 0, {1, 64}: 0, {1, 65}: 0, {-1, 62}: -1, {-1, 63}: -1, {-1, 64}: -1, {-1, 65}: -1,
		{top, 49}: 1, {top, 50}: 0, {-top, 49}: -2, {-top, 50}: -1, {top, 64}: 0, {-top, 64}: -1, {top, 15}: 30517578125, {-top, 16}: -15258789063,
		{top, top}: 0, {-top, top}: -1, {5, 1 << 32}: 0, {-5, 1 << 32}: -1, {5, 256}: 0, {-5, 256}: -1,
	})
	wantPairs(t, "<<", pairsOf{
		{0, 0}: 0, {5, 0}: 5, {-5, 0}: -5, {top, 0}: top, {-top, 0}: -top, {1, 10}: 1024, {-1, 4}: -16, {5, 3}: 40, {-5, 3}: -40,
		{1, 49}: 562949953421312, {-1, 49}: -562949953421312, {1, 32}: 4294967296, {-3, 32}: -12884901888,
		{0, 1}: 0, {0, 49}: 0, {0, 50}: 0, {0, 63}: 0, {0, 64}: 0, {0, 65}: 0, {0, 1 << 32}: 0, {0, top}: 0,
	})
	for _, name := range []string{">>", "<<"} {
		for _, y := range []int{-1, -2, -49, -64, -1 << 32, -top} {
			wantPairFaults(t, name, undefined, [2]int{0, y}, [2]int{1, y}, [2]int{-1, y}, [2]int{top, y}, [2]int{-top, y})
		}
	}
}

func TestEvalBits(t *testing.T) {
	const top = impl.MaxInt
	// What /\ , \/ and xor answer; each is the same whichever argument comes first.
	for args, want := range map[[2]int][3]int{
		{0, 0}: {0, 0, 0}, {0, 9}: {0, 9, 9}, {0, -9}: {0, -9, -9}, {-1, 9}: {9, -1, -10}, {-1, -9}: {-9, -1, 8}, {-1, -1}: {-1, -1, 0},
		{12, 10}: {8, 14, 6}, {-12, 10}: {0, -2, -2}, {12, -10}: {4, -2, -6}, {-12, -10}: {-12, -10, 2}, {5, 2}: {0, 7, 7}, {5, 5}: {5, 5, 0},
		{-4, 1}: {0, -3, -3}, {-4, 3}: {0, -1, -1}, {-4, 7}: {4, -1, -5}, {-5, -3}: {-7, -1, 6}, {1 << 40, 1}: {0, 1<<40 + 1, 1<<40 + 1},
		{-1 << 40, 1}: {0, 1 - 1<<40, 1 - 1<<40}, {-1 << 40, 1<<41 - 1}: {1 << 40, -1, -1<<40 - 1}, {-1, top - 1}: {top - 1, -1, -top},
		{-top, top}: {32768, -32768, -65536}, {top, top}: {top, top, 0}, {-top, -top}: {-top, -top, 0}, {-top, -1}: {-top, -1, top - 1},
	} {
		for i, name := range []string{`/\`, `\/`, "xor"} {
			wantPairs(t, name, pairsOf{args: want[i], {args[1], args[0]}: want[i]})
		}
	}
}

func TestEvalPowers(t *testing.T) {
	const top = impl.MaxInt
	for _, name := range []string{"**", "^"} {
		wantPairs(t, name, pairsOf{
			{0, 0}: 1, {1, 0}: 1, {-1, 0}: 1, {2, 0}: 1, {-2, 0}: 1, {top, 0}: 1, {-top, 0}: 1,
			{0, 1}: 0, {0, 2}: 0, {0, 5}: 0, {0, 64}: 0, {0, top}: 0, {0, top - 1}: 0,
			{1, 1}: 1, {1, 2}: 1, {1, 5}: 1, {1, top}: 1, {1, top - 1}: 1, {1, -1}: 1, {1, -2}: 1, {1, -5}: 1, {1, -top}: 1, {1, 1 - top}: 1,
			{-1, 1}: -1, {-1, 2}: 1, {-1, 5}: -1, {-1, top}: 1, {-1, top - 1}: -1, {-1, -1}: -1, {-1, -2}: 1, {-1, -3}: -1, {-1, -4}: 1, {-1, -top}: 1, {-1, 1 - top}: -1,
			{2, 1}: 2, {-2, 1}: -2, {2, 2}: 4, {-2, 2}: 4, {2, 3}: 8, {-2, 3}: -8, {2, 10}: 1024, {3, 3}: 27, {-3, 4}: 81, {7, 17}: 232630513987207, {-7, 17}: -232630513987207,
			{2, 49}: 562949953421312, {-2, 49}: -562949953421312, {-2, 48}: 281474976710656, {3, 31}: 617673396283947, {31622776, 2}: 999999961946176, {-31622776, 2}: 999999961946176,
		})
		for _, y := range []int{-1, -2, -3, -64, -top} {
			wantPairFaults(t, name, zeroDivisor, [2]int{0, y})
			for _, x := range []int{2, -2, 3, -7, 10, top, -top} {
				wantPairFaults(t, name, fmt.Sprintf("type_error(float,%d)", x), [2]int{x, y})
			}
		}
	}
}

func TestEvalNested(t *testing.T) {
	wantValues(t, map[string]int{
		"1+2*3-4": 3, "(1+2)*(3-4)": -3, "2-3-4": -5, "2-(3-4)": 3, "2^3^2": 512, "(2^3)^2": 64, "7//2*2+7 rem 2": 7, "-7//2*2+ -7 rem 2": -7,
		"abs(min(-3,2)*max(-4,5))": 15, "- - 3": 3, "-(-(3))": 3, `\ \ 5`: 5, "1<<(2+3)": 32, "(100>>2)mod 7": 4, "sign(-9)*abs(-9)": -9,
		"1000000000000000-1+1": impl.MaxInt, "0-1000000000000000+1-1": -impl.MaxInt, "2**3*2**2": 32, `(12/\10)\/(12 xor 10)`: 14,
		"(1-1)^(1-1)": 1, "(2-1)^(0-5)": 1, "1+(2+(3+(4+5)))": 15, "5 mod 3+10*(9//4)": 22, "+(+(+ 4))": 4,
	})
}
