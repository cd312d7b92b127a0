package tests

import (
	"math/big"
	"slices"
	"testing"

	"loop.example/s00095/impl"
)

// farShift is so great that no number but 0 that is shifted by it, or is a power by it, keeps the bounds.
const farShift = 200

func evaluationError(what string) []impl.Cell {
	return compTerm("evaluation_error", atomTerm(what))
}

// refEval is a second reading of chapter 6 with numbers that have no bounds: a number, or an error term.
func refEval(x []impl.Cell) (*big.Int, []impl.Cell) {
	switch x[0].Kind {
	case impl.TermVar:
		return nil, atomTerm(instantiation)
	case impl.TermInt:
		return big.NewInt(int64(x[0].N)), nil
	case impl.TermAtom:
		return nil, notEvaluable(string(x[0].Text), 0)
	}
	name, arity := string(x[0].Text), x[0].N
	isKnown := arity == 1 && slices.Contains(unaryNames, name) || arity == 2 && slices.Contains(binaryNames, name)
	if !isKnown {
		return nil, notEvaluable(name, arity)
	}
	var values []*big.Int
	for _, arg := range argTerms(x) {
		value, fault := refEval(arg)
		if fault != nil {
			return nil, fault
		}
		values = append(values, value)
	}
	return refWithin(refOperation(name, values))
}

func refWithin(value *big.Int, fault []impl.Cell) (*big.Int, []impl.Cell) {
	if fault == nil && value.CmpAbs(big.NewInt(impl.MaxInt)) > 0 {
		return nil, evaluationError("int_overflow")
	}
	return value, fault
}

func refOperation(name string, args []*big.Int) (*big.Int, []impl.Cell) {
	if len(args) == 1 {
		return refUnary(name, args[0]), nil
	}
	x, y := args[0], args[1]
	switch name {
	case "//", "rem", "mod":
		if y.Sign() == 0 {
			return nil, evaluationError("zero_divisor")
		}
		return refDivision(name, x, y), nil
	case ">>", "<<":
		if y.Sign() < 0 {
			return nil, evaluationError("undefined")
		}
		return refShift(name, x, y), nil
	case "**", "^":
		return refPower(x, y)
	}
	return refBinary(name, x, y), nil
}

func refUnary(name string, x *big.Int) *big.Int {
	switch name {
	case "-":
		return new(big.Int).Neg(x)
	case "abs":
		return new(big.Int).Abs(x)
	case "sign":
		return big.NewInt(int64(x.Sign()))
	case `\`:
		return new(big.Int).Sub(new(big.Int).Neg(x), big.NewInt(1))
	}
	return x
}

func refBinary(name string, x *big.Int, y *big.Int) *big.Int {
	z := new(big.Int)
	switch name {
	case "+":
		return z.Add(x, y)
	case "-":
		return z.Sub(x, y)
	case "*":
		return z.Mul(x, y)
	case `/\`:
		return z.And(x, y)
	case `\/`:
		return z.Or(x, y)
	case "xor":
		return z.Xor(x, y)
	}
	if (name == "min") == (x.Cmp(y) < 0) {
		return x
	}
	return y
}

// refDivision rounds the quotient towards zero for // and rem, and down for mod.
func refDivision(name string, x *big.Int, y *big.Int) *big.Int {
	quotient, rest := new(big.Int).QuoRem(x, y, new(big.Int))
	if name == "//" {
		return quotient
	}
	if name == "mod" && rest.Sign()*y.Sign() < 0 {
		quotient.Sub(quotient, big.NewInt(1))
	}
	return new(big.Int).Sub(x, quotient.Mul(quotient, y))
}

func refShift(name string, x *big.Int, y *big.Int) *big.Int {
	by := uint(farShift)
	if y.Cmp(big.NewInt(farShift)) < 0 {
		by = uint(y.Int64())
	}
	if name == "<<" {
		return new(big.Int).Lsh(x, by)
	}
	return new(big.Int).Rsh(x, by)
}

func refPower(x *big.Int, y *big.Int) (*big.Int, []impl.Cell) {
	isOne := x.CmpAbs(big.NewInt(1)) == 0
	switch {
	case y.Sign() < 0 && x.Sign() == 0:
		return nil, evaluationError("zero_divisor")
	case y.Sign() < 0 && !isOne:
		return nil, compTerm("type_error", atomTerm("float"), intTerm(int(x.Int64())))
	case isOne:
		// Nothing but whether the power is even plays a part.
		return new(big.Int).Exp(x, big.NewInt(int64(y.Bit(0))), nil), nil
	case y.CmpAbs(big.NewInt(farShift)) > 0:
		return new(big.Int).Exp(x, big.NewInt(farShift), nil), nil
	}
	return new(big.Int).Exp(x, y, nil), nil
}

// wantReference asks for what the second reading says, and answers this.
func wantReference(t *testing.T, x []impl.Cell) string {
	t.Helper()
	value, fault := refEval(x)
	got := showEval(impl.Eval(x))
	want := showEval(fault, impl.CodeError)
	if fault == nil {
		want = showEval(intTerm(int(value.Int64())), impl.CodeOK)
	}
	if got != want {
		t.Errorf("%s:\n got %s\nwant %s", impl.WriteTerm(impl.DefaultOps(), x, nil, true), got, want)
	}
	if fault == nil {
		return "value"
	}
	return showCells(fault[:min(2, len(fault))])
}

// edgeNumbers are those at which operations change what they do, with both signs.
func edgeNumbers() []int {
	const top = impl.MaxInt
	edges := []int{0}
	for _, n := range []int{
		1, 2, 3, 4, 5, 6, 7, 8, 10, 12, 14, 15, 16, 17, 31, 32, 33, 48, 49, 50, 51, 61, 62, 63, 64, 65, 100, 127, 128, 255, 256, 1000, 1001,
		99999, 100000, 100001, 274177, 31622776, 31622777, 1<<31 - 1, 1 << 31, 1<<32 - 1, 1 << 32, 1<<32 + 1, 3037000499, 3037000500, 30517578125, 999000999001,
		67280421310721, top / 3, top - 1<<49, top/2 - 1, top / 2, top/2 + 1, 1<<49 - 1, 1 << 49, 1<<49 + 1, top - 2, top - 1, top,
	} {
		edges = append(edges, n, -n)
	}
	return edges
}

func TestEvalReferenceEdges(t *testing.T) {
	edges := edgeNumbers()
	for _, x := range edges {
		for _, name := range unaryNames {
			wantReference(t, compTerm(name, intTerm(x)))
		}
		for _, y := range edges {
			for _, name := range binaryNames {
				wantReference(t, compTerm(name, intTerm(x), intTerm(y)))
			}
		}
	}
}

func TestEvalReferenceSmall(t *testing.T) {
	const most = 20
	for x := -most; x <= most; x++ {
		for y := -most; y <= most; y++ {
			for _, name := range binaryNames {
				wantReference(t, compTerm(name, intTerm(x), intTerm(y)))
			}
		}
	}
}

// evalTerm is mostly of names and numbers that have a value.
func evalTerm(d *dice, depth int) []impl.Cell {
	kind := d.below(40)
	switch {
	case kind == 0:
		return varTerm(d.below(3))
	case kind == 1:
		return atomTerm([]string{"a", "-", "abs", "[]"}[d.below(4)])
	case kind == 2:
		return compTerm([]string{"foo", "/", "abs", "-", "mod"}[d.below(5)], slices.Repeat([][]impl.Cell{evalTerm(d, 0)}, 1+d.below(3))...)
	case depth == 0 || kind < 8:
		if d.below(3) > 0 {
			return intTerm(d.below(13) - 6)
		}
		edges := edgeNumbers()
		return intTerm(edges[d.below(len(edges))])
	case kind < 14:
		return compTerm(unaryNames[d.below(len(unaryNames))], evalTerm(d, depth-1))
	}
	return compTerm(binaryNames[d.below(len(binaryNames))], evalTerm(d, depth-1), evalTerm(d, depth-1))
}

func TestEvalReferenceNested(t *testing.T) {
	d := dice(61)
	seen := map[string]int{}
	for range 60000 {
		seen[wantReference(t, evalTerm(&d, 1+d.below(4)))]++
	}
	kinds := []string{"value"}
	for _, fault := range []string{instantiation, zeroDivisor, undefined, intOverflow, "type_error(evaluable,a)", "type_error(float,1)"} {
		cells := parsed(fault)
		kinds = append(kinds, showCells(cells[:min(2, len(cells))]))
	}
	for _, kind := range kinds {
		if seen[kind] < 1000 {
			t.Errorf("%s comes %d times, which is seldom", kind, seen[kind])
		}
	}
	if len(seen) != len(kinds) {
		t.Errorf("kinds of answers: %v", seen)
	}
}
