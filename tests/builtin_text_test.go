package tests

import (
	"fmt"
	"slices"
	"strconv"
	"strings"
	"testing"

	"loop.example/s00095/impl"
)

// allBytes are all the bytes there are, in pieces that are atoms.
func allBytes() []string {
	var pieces []string
	for from := 0; from < 256; from += 64 {
		var piece []byte
		for b := from; b < from+64; b++ {
			piece = append(piece, byte(b))
		}
		pieces = append(pieces, string(piece))
	}
	return pieces
}

func someAtoms() []string {
	names := []string{"", "a", "abc", "A b", "[]", "{}", ".", "'", "\\", "\n", "12", "-7", "é", strings.Repeat("n", impl.MaxAtom-1), strings.Repeat("\xff", impl.MaxAtom)}
	return append(names, allBytes()...)
}

func someNumbers() []int {
	return []int{0, 7, -7, 12, 255, 256, -1, 1000000, impl.MaxInt, -impl.MaxInt}
}

func TestBuiltinAtomLength(t *testing.T) {
	for _, name := range someAtoms() {
		wantPair(t, varTerm(1), intTerm(len(name)), "atom_length", atomTerm(name), varTerm(1))
	}
	for _, n := range someNumbers() {
		wantPair(t, varTerm(1), intTerm(len(strconv.Itoa(n))), "atom_length", intTerm(n), varTerm(1))
	}
	wantEffects(t, map[string]string{
		"atom_length(-12, X1)": "X1 <- 3", "atom_length(abc, 4)": "4 <- 3", "atom_length(abc, foo)": "foo <- 3", "atom_length([], -1)": "-1 <- 2", "atom_length(a, f(X1))": "f(X1) <- 1",
		"atom_length(X2, X1)": "fault instantiation_error", "atom_length(X2, a)": "fault instantiation_error", "atom_length(f(a), X1)": "fault type_error(atomic,f(a))", "atom_length([a], b)": "fault type_error(atomic,[a])", "atom_length(f(X1), X1)": "fault type_error(atomic,f(X1))",
	})
}

func TestBuiltinTextIntoList(t *testing.T) {
	for _, name := range someAtoms() {
		wantPair(t, varTerm(1), codesTerm(name), "atom_codes", atomTerm(name), varTerm(1))
		wantPair(t, varTerm(1), charsTerm(name), "atom_chars", atomTerm(name), varTerm(1))
	}
	for _, n := range someNumbers() {
		wantPair(t, varTerm(1), codesTerm(strconv.Itoa(n)), "atom_codes", intTerm(n), varTerm(1))
		wantPair(t, varTerm(1), charsTerm(strconv.Itoa(n)), "atom_chars", intTerm(n), varTerm(1))
		wantPair(t, varTerm(1), codesTerm(strconv.Itoa(n)), "number_codes", intTerm(n), varTerm(1))
	}
	// What L is is not looked at.
	wantEffects(t, map[string]string{
		"atom_codes(ab, X1)": "X1 <- [97,98]", "atom_chars(ab, X1)": "X1 <- [a,b]", "atom_chars(-12, X1)": "X1 <- [-,'1','2']", "atom_codes([], X1)": "X1 <- [91,93]", "atom_codes('', X1)": "X1 <- []", "atom_chars('', a)": "a <- []",
		"atom_codes(ab, c)": "c <- [97,98]", "atom_codes(ab, [X1|X2])": "[X1|X2] <- [97,98]", "atom_codes(a, [256])": "[256] <- [97]", "atom_chars(a, [bc|d])": "[bc|d] <- [a]", "atom_chars(7, f(X1))": "f(X1) <- ['7']", "atom_codes(a, [97])": "[97] <- [97]",
	})
}

func TestBuiltinTextOutOfList(t *testing.T) {
	for _, name := range someAtoms() {
		wantPair(t, varTerm(1), atomTerm(name), "atom_codes", varTerm(1), codesTerm(name))
		wantPair(t, varTerm(1), atomTerm(name), "atom_chars", varTerm(1), charsTerm(name))
	}
	// It is an atom, even where it looks like something else.
	wantEffects(t, map[string]string{
		"atom_codes(X1, [])": "X1 <- ''", "atom_chars(X1, [])": "X1 <- ''", "atom_codes(X1, \"12\")": "X1 <- '12'", "atom_chars(X1, ['1','2'])": "X1 <- '12'", "atom_codes(X1, \"[]\")": "X1 <- []", "atom_codes(X1, [0,255])": "X1 <- '\\x00\\\\xff\\'",
		"atom_chars(X1, [a,' ','X'])": "X1 <- 'a X'",
	})
}

func TestBuiltinTextFaults(t *testing.T) {
	for _, name := range []string{"atom_codes", "atom_chars"} {
		for args, fault := range map[string]string{
			"f(a), X1": "type_error(atomic,f(a))", "[a], X1": "type_error(atomic,[a])", "f(X1), a": "type_error(atomic,f(X1))", "f(a), [256]": "type_error(atomic,f(a))",
			"X1, X2": instantiation, "X1, X1": instantiation, "X1, [X2]": instantiation, "X1, [X1]": instantiation, "X1, [X2|X3]": instantiation,
			"X1, a": "type_error(list,a)", "X1, 7": "type_error(list,7)", "X1, f(a)": "type_error(list,f(a))", "X1, {}": "type_error(list,{})", "X1, '.'(a)": "type_error(list,'.'(a))",
			// A list that is none is told ahead of its items.
			"X1, [X2|b]": "type_error(list,[X2|b])", "X1, [f(X2)|7]": "type_error(list,[f(X2)|7])", "X1, [f(a)|X2]": instantiation, "X1, [256,ab|X2]": instantiation, "X1, [-1|X2]": instantiation,
		} {
			wantEffects(t, map[string]string{name + "(" + args + ")": "fault " + fault})
		}
	}
	wantSameEffects(t, "fault "+badCode, "atom_codes(X1, [256])", "atom_codes(X1, [-1])", "atom_codes(X1, [a])", "atom_codes(X1, [97,f(X2)])", "atom_codes(X1, [[]])", "atom_codes(X1, [97,1000000000000000])", "atom_codes(X1, [97,'1'])", "atom_codes(X1, [\"a\"])")
	wantEffects(t, map[string]string{
		"atom_chars(X1, [ab])": "fault type_error(character,ab)", "atom_chars(X1, [''])": "fault type_error(character,'')", "atom_chars(X1, [a,7])": "fault type_error(character,7)", "atom_chars(X1, [97])": "fault type_error(character,97)",
		"atom_chars(X1, [a,f(X2),b])": "fault type_error(character,f(X2))", "atom_chars(X1, [[]])": "fault type_error(character,[])", "atom_chars(X1, [a,[b]])": "fault type_error(character,[b])", "atom_chars(X1, \"a\")": "fault type_error(character,97)",
		// The first item that is at fault counts.
		"atom_codes(X1, [X2,256])": "fault instantiation_error", "atom_codes(X1, [97,256,X2])": "fault " + badCode, "atom_codes(X1, [97,X2,a])": "fault instantiation_error",
		"atom_chars(X1, [X2,ab])": "fault instantiation_error", "atom_chars(X1, [ab,X2])": "fault type_error(character,ab)", "atom_chars(X1, [a,bc,de])": "fault type_error(character,bc)", "atom_chars(X1, [a,X2,7])": "fault instantiation_error",
	})
}

func TestBuiltinCharCode(t *testing.T) {
	for b := range 256 {
		char := atomTerm(string([]byte{byte(b)}))
		wantPair(t, varTerm(1), intTerm(b), "char_code", char, varTerm(1))
		wantPair(t, varTerm(1), char, "char_code", varTerm(1), intTerm(b))
	}
	// What N is is not looked at where C is an atom.
	wantEffects(t, map[string]string{
		"char_code(a, 97)": "97 <- 97", "char_code(a, b)": "b <- 97", "char_code(a, 256)": "256 <- 97", "char_code(a, f(X1))": "f(X1) <- 97", "char_code('1', X1)": "X1 <- 49",
		"char_code(X1, -1)": "fault " + badCode, "char_code(X1, 256)": "fault " + badCode, "char_code(X1, 353)": "fault " + badCode, "char_code(X1, -1000000000000000)": "fault " + badCode, "char_code(X1, 1000000000000000)": "fault " + badCode,
		"char_code(X1, X2)": "fault instantiation_error", "char_code(X1, X1)": "fault instantiation_error", "char_code(X1, a)": "fault type_error(integer,a)", "char_code(X1, f(X1))": "fault type_error(integer,f(X1))", "char_code(X1, 1+1)": "fault type_error(integer,1+1)",
		"char_code(ab, X1)": "fault type_error(character,ab)", "char_code('', X1)": "fault type_error(character,'')", "char_code([], X1)": "fault type_error(character,[])", "char_code(7, X1)": "fault type_error(character,7)", "char_code(f(X1), X1)": "fault type_error(character,f(X1))",
		// C comes ahead of N.
		"char_code(ab, 256)": "fault type_error(character,ab)", "char_code(7, a)": "fault type_error(character,7)", "char_code(f(a), f(b))": "fault type_error(character,f(a))",
	})
}

func TestBuiltinNumberCodes(t *testing.T) {
	for text, want := range map[string]int{
		"0": 0, "7": 7, "12": 12, "-7": -7, "-0": 0, "007": 7, "-007": -7, "0x1f": 31, "-0x1F": -31, "0o17": 15, "-0b101": -5, "0'a": 97, "-0'a": -97, "0'''": 39, "0' ": 32, "0'\\n": 10, "0'\\x7\\": 7, "0'\xff": 255, "0'%": 37, "0'-": 45,
		"1000000000000000": impl.MaxInt, "-1000000000000000": -impl.MaxInt, strings.Repeat("0", 900) + "5": 5, "'-'7": -7, "'\\x2d\\'7": -7,
	} {
		wantPair(t, varTerm(1), intTerm(want), "number_codes", varTerm(1), codesTerm(text))
		// What N is is not looked at where L has its text.
		for _, n := range [][]impl.Cell{intTerm(8), atomTerm("a"), parsed("f(X1)")} {
			wantPair(t, n, intTerm(want), "number_codes", n, codesTerm(text))
		}
	}
}

func TestBuiltinNumberCodesSyntax(t *testing.T) {
	for _, text := range []string{
		"", " ", "-", "+", "a", "X", "-a", "a7", "7a", "7_", "+7", "+ 7", "--7", "- 7", "-\n7", "-/**/7", "-%\n7", "'-' 7", "'+'7", "'-'", "-'-'7", "7-", "7 -", "7-7", "-7-", "-7 ", " -7", "- -7",
		" 7", "7 ", "\t7", "7\t", "\n7", "7\n", "\r7", "7\r", "%\n7", "7%", "7 %", "7%a", "/**/7", "7/**/", "/* */-7", "-7/* */", "7/*", "/*7",
		"7.", "7. ", "-7.", "7.5", "1e5", "7,", "(7)", "[7]", "7 7", "\"7\"", "'7'", "0x", "0xg", "0o8", "0b2", "0x ", "-0x", "0'", "0''", "0'ab", "0'\\", "0'\\q", "0'\n", "0'\\\n", "0'\x7f", "1'a", "7\x00", "\x00", "\x00\x37", "7\xff", "\xff",
		"1000000000000001", "-1000000000000001", "99999999999999999999", "0xfffffffffffffffff", "18446744073709551616",
	} {
		wantBuiltinFault(t, parsed(badDigits), "number_codes", varTerm(1), codesTerm(text))
		wantBuiltinFault(t, parsed(badDigits), "number_codes", intTerm(7), codesTerm(text))
		wantBuiltinFault(t, parsed(badDigits), "number_codes", parsed("f(X1)"), codesTerm(text))
	}
}

func TestBuiltinNumberCodesItems(t *testing.T) {
	for _, item := range []string{"256", "-1", "a", "'7'", "[]", "f(a)", "f(X1)", "[55]", "1000000000000000"} {
		bad := parsed(item)
		for _, items := range [][][]impl.Cell{{bad}, {bad, intTerm('7')}, {intTerm('7'), bad}, {bad, bad}} {
			for _, n := range [][]impl.Cell{varTerm(1), intTerm(7), atomTerm("a")} {
				wantBuiltinFault(t, parsed(badCode), "number_codes", n, listTerm(items...))
			}
		}
	}
	wantPair(t, varTerm(1), intTerm(0), "number_codes", varTerm(1), listTerm(intTerm('0')))
	wantBuiltinFault(t, parsed(badDigits), "number_codes", varTerm(1), listTerm(intTerm(0)))
	wantBuiltinFault(t, parsed(badDigits), "number_codes", varTerm(1), listTerm(intTerm(255)))
}

// A list with a variable among its items or at its end, whatever stands beside this, and what is no list, leave all to N.
func TestBuiltinNumberCodesByNumber(t *testing.T) {
	for _, list := range []string{
		"X2", "X1", "[X2]", "[X1]", "[55|X2]", "[55,X2]", "[X2,55]", "[X2|X3]", "[a,X2]", "[X2,a]", "[256|X2]", "[f(a),X2,-1]",
		"a", "7", "{}", "f(a)", "f(X2)", "[55|a]", "[55|7]", "[a|b]", "[256|b]", "[X2|b]", "'.'(55)",
	} {
		l := parsed(list)
		wantPair(t, l, codesTerm("-12"), "number_codes", intTerm(-12), l)
		wantBuiltinFault(t, parsed(instantiation), "number_codes", varTerm(1), l)
		wantBuiltinFault(t, parsed("type_error(integer,a)"), "number_codes", atomTerm("a"), l)
		wantBuiltinFault(t, parsed("type_error(integer,[])"), "number_codes", atomTerm("[]"), l)
		wantBuiltinFault(t, parsed("type_error(integer,f(X1))"), "number_codes", parsed("f(X1)"), l)
	}
}

// rightOf answers the right side of the one pair that a builtin asks for.
func rightOf(t *testing.T, name string, args ...[]impl.Cell) []impl.Cell {
	t.Helper()
	e, code := callBuiltin(name, args...)
	if code != impl.CodeOK || len(e.Right) != 1 {
		t.Fatalf("%.200s: %.300s", showCall(name, args...), showEffect(e, code))
	}
	return e.Right[0]
}

// Each way undoes the other.
func TestBuiltinTextBothWays(t *testing.T) {
	d := dice(71)
	x := varTerm(0)
	for range 500 {
		name := make([]byte, d.below(impl.MaxAtom+1))
		for i := range name {
			name[i] = byte(d.below(256))
		}
		a := atomTerm(string(name))
		for _, builtin := range []string{"atom_codes", "atom_chars"} {
			wantCells(t, builtin, rightOf(t, builtin, x, rightOf(t, builtin, a, x)), a)
		}
		n := intTerm((d.below(2000001) - 1000000) * (1 + d.below(999999999)))
		wantCells(t, "number_codes", rightOf(t, "number_codes", x, rightOf(t, "number_codes", n, x)), n)
		wantCells(t, fmt.Sprint("codes of ", n[0].N), rightOf(t, "atom_codes", n, x), codesTerm(strconv.Itoa(n[0].N)))
	}
}

func TestBuiltinTextLimits(t *testing.T) {
	for n := impl.MaxAtom - 1; n <= impl.MaxAtom+2; n++ {
		text := strings.Repeat("x", n)
		lists := map[string][]impl.Cell{"atom_codes": codesTerm(text), "atom_chars": charsTerm(text)}
		for name, list := range lists {
			if n > impl.MaxAtom {
				wantNothing(t, impl.CodeLimit, name, varTerm(1), list)
				continue
			}
			wantPair(t, varTerm(1), atomTerm(text), name, varTerm(1), list)
		}
	}
	// A fault of an item comes first: with it there is no atom.
	codes := slices.Repeat([][]impl.Cell{intTerm('x')}, 900)
	wantNothing(t, impl.CodeLimit, "atom_codes", varTerm(1), listTerm(codes...))
	wantBuiltinFault(t, parsed(badCode), "atom_codes", varTerm(1), listTerm(append(codes, intTerm(256))...))
	wantBuiltinFault(t, parsed(instantiation), "atom_codes", varTerm(1), listTerm(append(codes, varTerm(1))...))
	wantBuiltinFault(t, parsed(instantiation), "atom_codes", varTerm(1), listEnding(varTerm(2), codes...))
	chars := slices.Repeat([][]impl.Cell{atomTerm("x")}, 900)
	wantNothing(t, impl.CodeLimit, "atom_chars", varTerm(1), listTerm(chars...))
	wantBuiltinFault(t, parsed("type_error(character,xx)"), "atom_chars", varTerm(1), listTerm(append(chars, atomTerm("xx"))...))
	// The text of a number may be longer than an atom.
	wantPair(t, varTerm(1), intTerm(1), "number_codes", varTerm(1), codesTerm(strings.Repeat("0", 500)+"1"))
}
