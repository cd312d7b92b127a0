package tests

import (
	"bytes"
	"strings"
	"testing"

	"loop.example/s00095/impl"
)

const (
	smallLetters = "abcdefghijklmnopqrstuvwxyz"
	largeLetters = "ABCDEFGHIJKLMNOPQRSTUVWXYZ_"
	digitBytes   = "0123456789"
	symbolBytes  = `+-*/\^<>=~:.?@#&$`
	blankBytes   = " \t\n\r"
)

func TestCodesAndLimits(t *testing.T) {
	codes := []int{impl.CodeOK, impl.CodeBad, impl.CodeSyntax, impl.CodeLimit, impl.CodeFail, impl.CodeCyclic, impl.CodeError, impl.CodeMore, impl.CodeHalt, impl.CodeFuel, impl.CodeMemory}
	for i, code := range codes {
		if code != i {
			t.Errorf("code %d is %d", i, code)
		}
	}
	kinds := []int{impl.TokAtom, impl.TokVar, impl.TokInt, impl.TokString, impl.TokPunct, impl.TokCall, impl.TokEnd}
	for i, kind := range kinds {
		if kind != i+1 {
			t.Errorf("kind %d is %d", i+1, kind)
		}
	}
	if impl.MaxSource != 10000 || impl.MaxAtom != 100 || impl.MaxInt != 1000000000000000 {
		t.Errorf("limits: %d %d %d", impl.MaxSource, impl.MaxAtom, impl.MaxInt)
	}
}

func TestPlainOneByte(t *testing.T) {
	plain := smallLetters + strings.Replace(symbolBytes, ".", "", 1) + "!;"
	for b := range 256 {
		name := []byte{byte(b)}
		if want := bytes.IndexByte([]byte(plain), byte(b)) >= 0; impl.IsPlain(name) != want {
			t.Errorf("%q: plain is %v", name, !want)
		}
	}
}

func TestPlainSecondByte(t *testing.T) {
	for b := range 256 {
		inWord := strings.IndexByte(smallLetters+largeLetters+digitBytes, byte(b)) >= 0
		if got := impl.IsPlain([]byte{'a', byte(b)}); got != inWord {
			t.Errorf("a and byte %d: plain is %v", b, got)
		}
		symbol := strings.IndexByte(symbolBytes, byte(b)) >= 0
		if got := impl.IsPlain([]byte{'.', byte(b)}); got != symbol {
			t.Errorf(". and byte %d: plain is %v", b, got)
		}
		if got := impl.IsPlain([]byte{'/', byte(b)}); got != (symbol && b != '*') {
			t.Errorf("/ and byte %d: plain is %v", b, got)
		}
	}
}

func TestPlainWholeTexts(t *testing.T) {
	plain := []string{"a", "z", "aZ_09", "abc_", "a__", symbolBytes, "=/*", "//*", "*/", "...", "!", ";", "[]", "{}",
		strings.Repeat("z", impl.MaxAtom), strings.Repeat(".", impl.MaxAtom)}
	other := []string{"", ".", "/*", "/**", "/*/", "A", "_", "_a", "0", "0a", "a b", "ab-", "-a", "a.", "é", "a\xff", "!!", ";;",
		"!;", "[", "]", "{", "}", "[ ]", "[]]", "{}{}", ",", "|", "()", "'a'", "\"", "%", "\x00", "a\x00", "a\n", " a", "a ",
		strings.Repeat("z", impl.MaxAtom+1), strings.Repeat(".", impl.MaxAtom+1), strings.Repeat("z", 20000)}
	for _, name := range plain {
		if !impl.IsPlain([]byte(name)) {
			t.Errorf("%q is not plain", name)
		}
	}
	for _, name := range other {
		if impl.IsPlain([]byte(name)) {
			t.Errorf("%.40q is plain", name)
		}
	}
	if impl.IsPlain(nil) {
		t.Errorf("nil is plain")
	}
}

func TestQuoteOneByte(t *testing.T) {
	const hex = "0123456789abcdef"
	named := map[byte]string{'\'': `\'`, '\\': `\\`, '\n': `\n`, '\t': `\t`}
	for b := range 256 {
		inside := string([]byte{byte(b)})
		if text, ok := named[byte(b)]; ok {
			inside = text
		} else if b < 32 || b > 126 {
			inside = `\x` + string(hex[b/16]) + string(hex[b%16]) + `\`
		}
		// The blank ahead keeps the atom from being plain, whatever the byte.
		if got := string(impl.QuoteAtom([]byte{' ', byte(b)})); got != "' "+inside+"'" {
			t.Errorf("byte %d: %s", b, got)
		}
	}
}

func TestQuoteWholeTexts(t *testing.T) {
	cases := map[string]string{
		"": "''", "abc": "abc", "=..": "=..", "[]": "[]", "{}": "{}", "!": "!", ";": ";",
		".": "'.'", "/*": "'/*'", "Abc": "'Abc'", "don't": `'don\'t'`, `a\b`: `'a\\b'`, "a\"b": `'a"b'`,
		"\r\n\t": `'\x0d\\n\t'`, "\x00\x0a\xff": `'\x00\\n\xff\'`, "a%b": "'a%b'", "/* a */": "'/* a */'",
	}
	for name, want := range cases {
		if got := string(impl.QuoteAtom([]byte(name))); got != want {
			t.Errorf("%q: %s, want %s", name, got, want)
		}
	}
	if got := string(impl.QuoteAtom(nil)); got != "''" {
		t.Errorf("nil: %s", got)
	}
}

func TestQuoteLength(t *testing.T) {
	most := strings.Repeat("\x00", impl.MaxAtom)
	if got := string(impl.QuoteAtom([]byte(most))); got != "'"+strings.Repeat(`\x00\`, impl.MaxAtom)+"'" {
		t.Errorf("%d bytes: %s", impl.MaxAtom, got)
	}
	for _, name := range []string{"a", "A", "+", "\x00"} {
		for _, length := range []int{impl.MaxAtom + 1, 20000} {
			if got := impl.QuoteAtom([]byte(strings.Repeat(name, length))); len(got) != 0 {
				t.Errorf("%d times %q: %d bytes", length, name, len(got))
			}
		}
	}
}

// checkQuoteReads holds the text of QuoteAtom against what Lex makes of it.
func checkQuoteReads(t *testing.T, name []byte) {
	t.Helper()
	text := string(impl.QuoteAtom(name))
	switch string(name) {
	case "[]", "{}":
		// These two are plain by chapter 1.1, and two TokPunct by chapter 1.2.
		wantTokens(t, text, punctTok(0, text[:1]), punctTok(1, text[1:]))
		return
	}
	wantTokens(t, text, atomTok(0, len(text), string(name)))
	if impl.IsPlain(name) != (text == string(name)) {
		t.Errorf("%q is written %s", name, text)
	}
}

func TestQuoteReadsShortAtoms(t *testing.T) {
	checkQuoteReads(t, nil)
	for a := range 256 {
		checkQuoteReads(t, []byte{byte(a)})
		for b := range 256 {
			checkQuoteReads(t, []byte{byte(a), byte(b)})
		}
	}
}

func TestQuoteReadsLongAtoms(t *testing.T) {
	d := dice(1)
	for range 3000 {
		name := make([]byte, d.below(impl.MaxAtom+1))
		for i := range name {
			name[i] = byte(d.below(256))
		}
		checkQuoteReads(t, name)
	}
	for _, among := range []string{symbolBytes, smallLetters + largeLetters + digitBytes, `'\x"n`, "/*.%"} {
		for range 1000 {
			name := make([]byte, d.below(impl.MaxAtom+1))
			for i := range name {
				name[i] = among[d.below(len(among))]
			}
			checkQuoteReads(t, name)
		}
	}
	for _, name := range []string{"a", "+", "'", "\\", "\x00", "\xff", "\n", "é"} {
		checkQuoteReads(t, []byte(strings.Repeat(name, impl.MaxAtom/len(name))))
	}
}

func TestAtomMemory(t *testing.T) {
	for _, name := range []string{"", "a", "abc", "=..", "[]", "A b", "it's", "\x00\xff", strings.Repeat("a", 100), strings.Repeat("a", 101)} {
		arg, untouched := roomy(name)
		plain := impl.IsPlain(arg)
		text := impl.QuoteAtom(arg)
		want := string(text)
		overwrite(text)
		if !untouched() {
			t.Errorf("%.20q: the argument was written into, or is shared", name)
		}
		if impl.IsPlain(arg) != plain || string(impl.QuoteAtom(arg)) != want {
			t.Errorf("%.20q: another answer the second time", name)
		}
	}
}
