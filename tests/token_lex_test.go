package tests

import (
	"strings"
	"testing"

	"loop.example/s00095/impl"
)

func TestLexClause(t *testing.T) {
	wantTokens(t, "app([H|T], L, [H|R]) :-\n    app(T, L, R). % next\n",
		atomTok(0, 3, "app"), callTok(3), punctTok(4, "["), varTok(5, "H"), punctTok(6, "|"), varTok(7, "T"), punctTok(8, "]"),
		punctTok(9, ","), varTok(11, "L"), punctTok(12, ","), punctTok(14, "["), varTok(15, "H"), punctTok(16, "|"), varTok(17, "R"),
		punctTok(18, "]"), punctTok(19, ")"), atomTok(21, 2, ":-"), atomTok(28, 3, "app"), callTok(31), varTok(32, "T"),
		punctTok(33, ","), varTok(35, "L"), punctTok(36, ","), varTok(38, "R"), punctTok(39, ")"), endTok(40))
	wantTokens(t, "X is -1+0x1f*_y, write('a b'), \"s\" ; !.",
		varTok(0, "X"), atomTok(2, 2, "is"), atomTok(5, 1, "-"), intTok(6, 1, 1), atomTok(7, 1, "+"), intTok(8, 4, 31), atomTok(12, 1, "*"),
		varTok(13, "_y"), punctTok(15, ","), atomTok(17, 5, "write"), callTok(22), atomTok(23, 5, "a b"), punctTok(28, ")"),
		punctTok(29, ","), stringTok(31, 3, "s"), atomTok(35, 1, ";"), atomTok(37, 1, "!"), endTok(38))
}

func TestLexNothing(t *testing.T) {
	for _, src := range []string{"", " ", blankBytes, "%", "%\n", "% a 'b", "/**/", "/***/", "/* * / */", "/* % */", "/*\n*/\n", "% /*\n", "%%\n%", "/*'*/%\""} {
		wantTokens(t, src)
	}
	if toks, code, at := impl.Lex(nil); len(toks) != 0 || code != impl.CodeOK || at != 0 {
		t.Errorf("nil: %s", showLex(toks, code, at))
	}
}

func TestLexWords(t *testing.T) {
	wantTokens(t, "aZ_09 Z9a_ _ _9 __a", atomTok(0, 5, "aZ_09"), varTok(6, "Z9a_"), varTok(11, "_"), varTok(13, "_9"), varTok(16, "__a"))
	wantTokens(t, "a'b'", atomTok(0, 1, "a"), atomTok(1, 3, "b"))
	wantTokens(t, "a\"b\"X", atomTok(0, 1, "a"), stringTok(1, 3, "b"), varTok(4, "X"))
	for _, b := range []byte(smallLetters) {
		wantTokens(t, string(b)+"1", atomTok(0, 2, string(b)+"1"))
	}
	for _, b := range []byte(largeLetters) {
		wantTokens(t, string(b)+"1", varTok(0, string(b)+"1"))
	}
	// No letter of another script is one here.
	wantFault(t, "aé", impl.CodeSyntax, 1)
}

func TestLexEveryByteAlone(t *testing.T) {
	for b := range 256 {
		text := string([]byte{byte(b)})
		switch {
		case strings.Contains(blankBytes, text) || b == '%':
			wantTokens(t, text)
		case b == '.':
			wantTokens(t, text, endTok(0))
		case strings.Contains(smallLetters+symbolBytes+"!;", text):
			wantTokens(t, text, atomTok(0, 1, text))
		case strings.Contains(largeLetters, text):
			wantTokens(t, text, varTok(0, text))
		case strings.Contains(digitBytes, text):
			wantTokens(t, text, intTok(0, 1, b-'0'))
		case strings.Contains("()[]{},|", text):
			wantTokens(t, text, punctTok(0, text))
		default:
			wantFault(t, text, impl.CodeSyntax, 0)
			wantFault(t, "a "+text, impl.CodeSyntax, 2)
		}
	}
}

func TestLexNumbers(t *testing.T) {
	cases := map[string]int{
		"0": 0, "00": 0, "10": 10, "0123456789": 123456789, "0x0": 0, "0xff": 255, "0xFF": 255, "0xaB09": 43785, "0o7": 7, "0o0017": 15,
		"0b0": 0, "0b1011": 11, "0x00000000000000000000000001": 1, "00000000000000000000000000000000000012": 12,
	}
	for src, n := range cases {
		wantTokens(t, src, intTok(0, len(src), n))
		wantTokens(t, src+".", intTok(0, len(src), n), endTok(len(src)))
		wantTokens(t, src+"(", intTok(0, len(src), n), punctTok(len(src), "("))
	}
	wantTokens(t, "1.5", intTok(0, 1, 1), atomTok(1, 1, "."), intTok(2, 1, 5))
	wantTokens(t, "1'a'", intTok(0, 1, 1), atomTok(1, 3, "a"))
	wantTokens(t, "00'a'", intTok(0, 2, 0), atomTok(2, 3, "a"))
	wantTokens(t, "1\"a\"", intTok(0, 1, 1), stringTok(1, 3, "a"))
	for _, src := range []string{"0x", "0o", "0b", "0xg", "0xG", "0o8", "0b2", "0b9", "0X1", "0O1", "0B1", "0x1g", "0xf_", "0o78", "0o7a", "0b12", "0b1b", "1a", "1A", "1_", "12_000", "0a", "0_", "9e9", "0x.", "0b 1"} {
		wantFault(t, src, impl.CodeSyntax, 0)
		wantFault(t, "X "+src, impl.CodeSyntax, 2)
	}
}

func TestLexNumberLimit(t *testing.T) {
	atLimit := []string{"1000000000000000", "0001000000000000000", "0x38D7EA4C68000", "0x38d7ea4c68000", "0o34327724461500000", "0b11100011010111111010100100110001101000000000000000"}
	for _, src := range atLimit {
		wantTokens(t, src, intTok(0, len(src), impl.MaxInt))
	}
	above := []string{"1000000000000001", "0001000000000000001", "0x38D7EA4C68001", "0o34327724461500001", "0b11100011010111111010100100110001101000000000000001",
		"9223372036854775807", "9223372036854775808", "18446744073709551616", "18446744073709551617", "0x10000000000000000", "0x10000000000000001", "1" + strings.Repeat("0", 300), "0b1" + strings.Repeat("0", 64), "0o2" + strings.Repeat("0", 21)}
	for _, src := range above {
		wantFault(t, src, impl.CodeLimit, 0)
		wantFault(t, "a, "+src+" 'b", impl.CodeLimit, 3)
		wantFault(t, src+"z", impl.CodeSyntax, 0)
	}
}

func TestLexCharacterNumbers(t *testing.T) {
	for b := range 256 {
		src := "0'" + string([]byte{byte(b)})
		switch {
		case b == '\'' || b == '\\' || b < 32 || b == 127:
			wantFault(t, src, impl.CodeSyntax, 0)
		default:
			wantTokens(t, src, intTok(0, 3, b))
			wantTokens(t, src+"+0'"+src[2:], intTok(0, 3, b), atomTok(3, 1, "+"), intTok(4, 3, b))
			wantFault(t, src+"a", impl.CodeSyntax, 0)
			wantFault(t, src+"_", impl.CodeSyntax, 0)
			wantFault(t, src+"0", impl.CodeSyntax, 0)
		}
	}
	wantTokens(t, "0'''", intTok(0, 4, '\''))
	wantTokens(t, "0''''a'", intTok(0, 4, '\''), atomTok(4, 3, "a"))
	wantTokens(t, "0'\"\"\"", intTok(0, 3, '"'), stringTok(3, 2, ""))
	wantTokens(t, "0'((", intTok(0, 3, '('), punctTok(3, "("))
	wantTokens(t, "0' .", intTok(0, 3, ' '), endTok(3))
	wantTokens(t, "0'%%", intTok(0, 3, '%'))
	for _, src := range []string{"0'", "0''", "0'' ", "0''a'", "0'\n", "0'\t", "0'''a"} {
		wantFault(t, src, impl.CodeSyntax, 0)
	}
	wantFault(t, "0''''", impl.CodeSyntax, 4)
}

// escapes are those that stand for a byte; the one that stands for nothing is apart.
var escapes = map[string]byte{
	`\\`: '\\', `\'`: '\'', `\"`: '"', `\n`: 10, `\t`: 9, `\r`: 13,
	`\x0\`: 0, `\x00\`: 0, `\x9\`: 9, `\x41\`: 'A', `\xa\`: 10, `\xA\`: 10, `\xfF\`: 255, `\x7f\`: 127, `\x27\`: '\'', `\x5c\`: '\\',
}

var wrongEscapes = []string{`\`, `\a`, `\b`, `\0`, `\e`, `\N`, `\s`, `\X41\`, `\x`, `\x\`, `\x4`, `\xg\`, `\x4g\`, `\x 4\`, `\x411\`, `\x041\`, `\x41`, `\x41;`, "\\\t", "\\\r", "\\ ", "\\%", "\\\xe9", "\\\x00"}

func TestLexEscapes(t *testing.T) {
	for text, b := range escapes {
		one := string([]byte{b})
		wantTokens(t, "0'"+text, intTok(0, 2+len(text), int(b)))
		wantFault(t, "0'"+text+"a", impl.CodeSyntax, 0)
		wantTokens(t, "'"+text+"'", atomTok(0, 2+len(text), one))
		wantTokens(t, "'a"+text+"b'", atomTok(0, 4+len(text), "a"+one+"b"))
		wantTokens(t, "\""+text+"\"", stringTok(0, 2+len(text), one))
	}
	for _, text := range wrongEscapes {
		wantFault(t, "0'"+text, impl.CodeSyntax, 0)
		wantFault(t, "'"+text+"'", impl.CodeSyntax, 0)
		wantFault(t, "\""+text+"\"", impl.CodeSyntax, 0)
		wantFault(t, "a 'b"+text+"c'", impl.CodeSyntax, 2)
		wantFault(t, "a '"+text, impl.CodeSyntax, 2)
	}
}

func TestLexEscapedLineEnd(t *testing.T) {
	wantTokens(t, "'\\\n'", atomTok(0, 4, ""))
	wantTokens(t, "'a\\\n\\\nb'", atomTok(0, 8, "ab"))
	wantTokens(t, "\"a\\\n\"", stringTok(0, 5, "a"))
	wantTokens(t, "'\\\n'''", atomTok(0, 6, "'"))
	wantFault(t, "0'\\\n", impl.CodeSyntax, 0)
	wantFault(t, "0'\\\na", impl.CodeSyntax, 0)
	wantFault(t, "'\\\n", impl.CodeSyntax, 0)
	wantFault(t, "'\\\n\n'", impl.CodeSyntax, 0)
}

func TestLexQuotes(t *testing.T) {
	wantTokens(t, "''", atomTok(0, 2, ""))
	wantTokens(t, "''''", atomTok(0, 4, "'"))
	wantTokens(t, "''''''", atomTok(0, 6, "''"))
	wantTokens(t, "'a''b'", atomTok(0, 6, "a'b"))
	wantTokens(t, "'a' 'b'", atomTok(0, 3, "a"), atomTok(4, 3, "b"))
	wantTokens(t, `'"' '""' "'" "''"`, atomTok(0, 3, `"`), atomTok(4, 4, `""`), stringTok(9, 3, "'"), stringTok(13, 4, "''"))
	wantTokens(t, `"" """" "a""b"`, stringTok(0, 2, ""), stringTok(3, 4, `"`), stringTok(8, 6, `a"b`))
	wantTokens(t, "'/* a */ % b.'", atomTok(0, 14, "/* a */ % b."))
	wantTokens(t, `'\''''`, atomTok(0, 6, "''"))
	wantTokens(t, "'a'\"b\"(", atomTok(0, 3, "a"), stringTok(3, 3, "b"), punctTok(6, "("))
	for _, src := range []string{"'", "'''", "'a", "'a''", `'a\'`, "\"", "\"\"\"", "\"a'", "'a\"", "'a\n'", "'a\tb'"} {
		wantFault(t, src, impl.CodeSyntax, 0)
		wantFault(t, "% x\n"+src, impl.CodeSyntax, 4)
	}
	wantFault(t, "'a' 'b", impl.CodeSyntax, 4)
}

func TestLexQuotedBytes(t *testing.T) {
	for b := range 256 {
		one := string([]byte{byte(b)})
		for _, quote := range []string{"'", "\""} {
			src := quote + "a" + one + "a" + quote
			switch {
			case b < 32 || b == 127 || b == '\\':
				wantFault(t, src, impl.CodeSyntax, 0)
			case one == quote:
				wantFault(t, src, impl.CodeSyntax, len(src)-1)
			case quote == "'":
				wantTokens(t, src, atomTok(0, 5, "a"+one+"a"))
			default:
				wantTokens(t, src, stringTok(0, 5, "a"+one+"a"))
			}
		}
	}
}

func TestLexPoint(t *testing.T) {
	for _, b := range []byte(blankBytes + "%") {
		wantTokens(t, "a."+string(b), atomTok(0, 1, "a"), endTok(1))
		wantTokens(t, "."+string(b), endTok(0))
	}
	wantTokens(t, "a.%b\nc.", atomTok(0, 1, "a"), endTok(1), atomTok(5, 1, "c"), endTok(6))
	wantTokens(t, "a. b.\nc", atomTok(0, 1, "a"), endTok(1), atomTok(3, 1, "b"), endTok(4), atomTok(6, 1, "c"))
	wantTokens(t, "a.b", atomTok(0, 1, "a"), atomTok(1, 1, "."), atomTok(2, 1, "b"))
	wantTokens(t, ".(", atomTok(0, 1, "."), callTok(1))
	wantTokens(t, ".'a'", atomTok(0, 1, "."), atomTok(1, 3, "a"))
	wantTokens(t, "..", atomTok(0, 2, ".."))
	wantTokens(t, "=. ", atomTok(0, 2, "=."))
	wantTokens(t, "a+.", atomTok(0, 1, "a"), atomTok(1, 2, "+."))
	wantTokens(t, ".+ .", atomTok(0, 2, ".+"), endTok(3))
	wantTokens(t, "a./**/", atomTok(0, 1, "a"), atomTok(1, 5, "./**/"))
	wantFault(t, ".\x00", impl.CodeSyntax, 1)
	wantFault(t, ".\x0b", impl.CodeSyntax, 1)
}

func TestLexComments(t *testing.T) {
	wantTokens(t, "a/**/b", atomTok(0, 1, "a"), atomTok(5, 1, "b"))
	wantTokens(t, "X/*a*//*b*/Y", varTok(0, "X"), varTok(11, "Y"))
	wantTokens(t, "/* /* */ a", atomTok(9, 1, "a"))
	wantTokens(t, "/* a */ */", atomTok(8, 2, "*/"))
	wantTokens(t, "/***/a", atomTok(5, 1, "a"))
	wantTokens(t, "/* % */ a % */ b\n c", atomTok(8, 1, "a"), atomTok(18, 1, "c"))
	wantTokens(t, "a%b\nc", atomTok(0, 1, "a"), atomTok(4, 1, "c"))
	wantTokens(t, "a%b\rc", atomTok(0, 1, "a"))
	wantTokens(t, "=/*a", atomTok(0, 3, "=/*"), atomTok(3, 1, "a"))
	wantTokens(t, "=/* */", atomTok(0, 3, "=/*"), atomTok(4, 2, "*/"))
	wantTokens(t, "= /* */", atomTok(0, 1, "="))
	wantTokens(t, "//* a", atomTok(0, 3, "//*"), atomTok(4, 1, "a"))
	wantTokens(t, "+%-", atomTok(0, 1, "+"))
	wantTokens(t, "/ *", atomTok(0, 1, "/"), atomTok(2, 1, "*"))
	wantFault(t, "/*", impl.CodeSyntax, 0)
	wantFault(t, "/*/", impl.CodeSyntax, 0)
	wantFault(t, "a/* b * /", impl.CodeSyntax, 1)
	wantFault(t, "/**/ /* 'b", impl.CodeSyntax, 5)
	wantFault(t, "!/*", impl.CodeSyntax, 1)
}

func TestLexCall(t *testing.T) {
	for _, atom := range []string{"a", "aB9_", "+", "=..", ":-", "!", ";", "''", "'a b'", "'('"} {
		toks, code, _ := impl.Lex([]byte(atom + "()"))
		if code != impl.CodeOK || len(toks) != 3 || toks[0].Kind != impl.TokAtom || showTokens(toks[1:2]) != showTokens([]impl.Token{callTok(len(atom))}) {
			t.Errorf("%s(): %s", atom, showTokens(toks))
		}
		for _, between := range []string{" ", "\t", "\n", "\r", "%\n"} {
			at := len(atom) + len(between)
			toks, code, _ := impl.Lex([]byte(atom + between + "("))
			if code != impl.CodeOK || len(toks) != 2 || showTokens(toks[1:]) != showTokens([]impl.Token{punctTok(at, "(")}) {
				t.Errorf("%s, %q, (: %s", atom, between, showTokens(toks))
			}
		}
	}
	wantTokens(t, "a/**/(", atomTok(0, 1, "a"), punctTok(5, "("))
	for _, other := range []string{"X", "_", "1", "0'a", "\"a\"", "(", ")", "]", "}", ",", "|"} {
		toks, code, _ := impl.Lex([]byte(other + "("))
		if code != impl.CodeOK || len(toks) != 2 || showTokens(toks[1:]) != showTokens([]impl.Token{punctTok(len(other), "(")}) {
			t.Errorf("%s(: %s", other, showTokens(toks))
		}
	}
	wantTokens(t, "(", punctTok(0, "("))
	wantTokens(t, "a((", atomTok(0, 1, "a"), callTok(1), punctTok(2, "("))
	wantTokens(t, "a[a{a,", atomTok(0, 1, "a"), punctTok(1, "["), atomTok(2, 1, "a"), punctTok(3, "{"), atomTok(4, 1, "a"), punctTok(5, ","))
	wantTokens(t, "a. (", atomTok(0, 1, "a"), endTok(1), punctTok(3, "("))
}

func TestLexTextLimit(t *testing.T) {
	most := strings.Repeat("a", impl.MaxAtom)
	wantTokens(t, most, atomTok(0, 100, most))
	wantTokens(t, "A"+most[1:], varTok(0, "A"+most[1:]))
	wantTokens(t, strings.Repeat("+", 100), atomTok(0, 100, strings.Repeat("+", 100)))
	wantTokens(t, "'"+most+"'", atomTok(0, 102, most))
	wantTokens(t, "\""+most+"\"", stringTok(0, 102, most))
	wantTokens(t, "'"+strings.Repeat(`\x41\`, 100)+"'", atomTok(0, 502, strings.Repeat("A", 100)))
	wantTokens(t, "'"+strings.Repeat("\\\n", 200)+most+"'", atomTok(0, 502, most))
	wantTokens(t, "\""+strings.Repeat(`""`, 100)+"\"", stringTok(0, 202, strings.Repeat(`"`, 100)))
	for _, src := range []string{most + "a", most + "_", "_" + most, strings.Repeat("+", 101), strings.Repeat(".", 101), "'" + most + "a'", "\"" + most + "a\"",
		"'" + strings.Repeat(`\n`, 101) + "'", "'" + strings.Repeat("''", 101) + "'", "\"" + strings.Repeat(`""`, 101) + "\"", strings.Repeat("b", 9000)} {
		wantFault(t, src, impl.CodeLimit, 0)
		wantFault(t, "a:- "+src+" \x00", impl.CodeLimit, 4)
	}
	wantFault(t, "'"+most+"a", impl.CodeSyntax, 0)
	wantFault(t, "'"+most+"a\n'", impl.CodeSyntax, 0)
	wantTokens(t, "%"+strings.Repeat(most, 3)+"\n/*"+strings.Repeat(most, 3)+"*/")
}

func TestLexSourceLimit(t *testing.T) {
	wantTokens(t, strings.Repeat(" ", impl.MaxSource-1)+"a", atomTok(impl.MaxSource-1, 1, "a"))
	wantTokens(t, strings.Repeat(" ", impl.MaxSource-1)+".", endTok(impl.MaxSource-1))
	wantTokens(t, "%"+strings.Repeat("a", impl.MaxSource-1))
	wantFault(t, strings.Repeat(" ", impl.MaxSource-1)+"'", impl.CodeSyntax, impl.MaxSource-1)
	wantFault(t, strings.Repeat(" ", impl.MaxSource)+" ", impl.CodeLimit, impl.MaxSource)
	wantFault(t, "'"+strings.Repeat(" ", impl.MaxSource), impl.CodeLimit, impl.MaxSource)
	wantFault(t, strings.Repeat("\x00", impl.MaxSource+1), impl.CodeLimit, impl.MaxSource)
	wantFault(t, strings.Repeat("a ", 3*impl.MaxSource), impl.CodeLimit, impl.MaxSource)
	toks, code, at := impl.Lex([]byte(strings.Repeat("(", impl.MaxSource)))
	if code != impl.CodeOK || at != 0 || len(toks) != impl.MaxSource {
		t.Errorf("%d tokens, %d@%d", len(toks), code, at)
	}
}

func TestLexFirstFault(t *testing.T) {
	long := strings.Repeat("a", impl.MaxAtom+1)
	wantFault(t, "a ` 'b", impl.CodeSyntax, 2)
	wantFault(t, "1a "+long, impl.CodeSyntax, 0)
	wantFault(t, long+" 1a", impl.CodeLimit, 0)
	wantFault(t, "ok. 1000000000000001 1a", impl.CodeLimit, 4)
	wantFault(t, "ok. 'a\n' /*", impl.CodeSyntax, 4)
	wantFault(t, "/* 1a 'b", impl.CodeSyntax, 0)
	wantFault(t, "% 1a 'b\n 2b", impl.CodeSyntax, 9)
	wantFault(t, "\"/*\" /*", impl.CodeSyntax, 5)
	wantFault(t, "a'", impl.CodeSyntax, 1)
	wantFault(t, "a. b. \x7f", impl.CodeSyntax, 6)
}

func TestLexMemory(t *testing.T) {
	srcs := []string{"foo(Bar, 'a b', \"s\", 12) :- x;!. % c\n", "a", "a'b", "f(A)+'\\x41\\'\"\"", strings.Repeat("ab ", 300)}
	for _, src := range srcs {
		arg, untouched := roomy(src)
		toks, code, at := impl.Lex(arg)
		want := showLex(toks, code, at)
		for i := range toks {
			overwrite(toks[i].Text)
			again, _, _ := impl.Lex([]byte(src))
			if showTokens(toks[i+1:]) != showTokens(again[i+1:]) {
				t.Fatalf("%.40q: token %d shares memory with a later one", src, i)
			}
		}
		if !untouched() {
			t.Errorf("%.40q: the argument was written into, or is shared", src)
		}
		toks, code, at = impl.Lex(arg)
		overwrite(arg[:len(arg):len(arg)])
		if got := showLex(toks, code, at); got != want {
			t.Errorf("%.40q: the answer changed with the argument", src)
		}
	}
}
