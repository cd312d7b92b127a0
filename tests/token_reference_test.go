package tests

import (
	"regexp"
	"strconv"
	"testing"

	"loop.example/s00095/impl"
)

// The reference says chapter 1.2 once more, by regular expressions. They go by runes, so a text is given to them with a
// rune for each byte, and offsets are counted in runes.

const (
	escapeRule = `\\(?:[\\'"ntr]|x[0-9a-fA-F]{1,2}\\)`
	itselfRule = `[ -&(-\[\]-~\x{80}-\x{ff}]`
	inAtomRule = `''|` + escapeRule + `|\\\n|[ -&(-\[\]-~\x{80}-\x{ff}]`
	inTextRule = `""|` + escapeRule + `|\\\n|[ !#-\[\]-~\x{80}-\x{ff}]`
)

var (
	blankRule   = regexp.MustCompile(`^(?:[ \t\n\r]+|%[^\n]*)`)
	blockRule   = regexp.MustCompile(`^(?s:/\*.*?\*/)`)
	nameRule    = regexp.MustCompile(`^[a-z][a-zA-Z_0-9]*`)
	varRule     = regexp.MustCompile(`^[A-Z_][a-zA-Z_0-9]*`)
	charRule    = regexp.MustCompile(`^0'(?:''|` + escapeRule + `|` + itselfRule + `)`)
	baseRule    = regexp.MustCompile(`^(?:0x[0-9a-fA-F]+|0o[0-7]+|0b[01]+)`)
	numberRule  = regexp.MustCompile(`^[0-9]+`)
	behindRule  = regexp.MustCompile(`^[a-zA-Z_0-9]`)
	endRule     = regexp.MustCompile(`^\.(?:[ \t\n\r%]|$)`)
	symbolRule  = regexp.MustCompile(`^[-+*/\\^<>=~:.?@#&$]+`)
	soloRule    = regexp.MustCompile(`^[!;]`)
	atomRule    = regexp.MustCompile(`^'(?:` + inAtomRule + `)*'`)
	stringRule  = regexp.MustCompile(`^"(?:` + inTextRule + `)*"`)
	punctRule   = regexp.MustCompile(`^[()\[\]{},|]`)
	inAtomPiece = regexp.MustCompile(inAtomRule)
	inTextPiece = regexp.MustCompile(inTextRule)
)

func runesOf(src []byte) string {
	out := make([]rune, len(src))
	for i, b := range src {
		out[i] = rune(b)
	}
	return string(out)
}

func bytesOf(text string) []byte {
	var out []byte
	for _, r := range text {
		out = append(out, byte(r))
	}
	return out
}

// pieceValue is what one piece of a quoted text stands for.
func pieceValue(piece string) string {
	if len(piece) == 1 || []rune(piece)[0] != '\\' {
		return string([]rune(piece)[:1])
	}
	switch piece[1] {
	case '\n':
		return ""
	case 'n':
		return "\n"
	case 't':
		return "\t"
	case 'r':
		return "\r"
	case 'x':
		n, _ := strconv.ParseUint(piece[2:len(piece)-1], 16, 8)
		return string(rune(n))
	}
	return piece[1:]
}

func piecesValue(rule *regexp.Regexp, text string) []byte {
	return bytesOf(rule.ReplaceAllStringFunc(text, pieceValue))
}

// referenceNumber answers a length and a value, or a code.
func referenceNumber(rest string) (string, int, int) {
	found, value, code := numberRule.FindString(rest), 0, impl.CodeOK
	if c := charRule.FindString(rest); c != "" {
		found, value = c, int([]rune(pieceValue(c[2:]))[0])
	} else if len(rest) > 1 && rest[:2] == "0'" {
		return "", 0, impl.CodeSyntax
	} else {
		base, digits := 10, found
		if b := baseRule.FindString(rest); b != "" {
			found, digits = b, b[2:]
			base = map[byte]int{'x': 16, 'o': 8, 'b': 2}[b[1]]
		}
		n, err := strconv.ParseInt(digits, base, 64)
		if value = int(n); err != nil || n > impl.MaxInt {
			code = impl.CodeLimit
		}
	}
	if behindRule.MatchString(rest[len(found):]) {
		code = impl.CodeSyntax
	}
	return found, value, code
}

// referenceToken answers a token without its place, the text that it takes, and a code.
func referenceToken(rest string, behindAtom bool) (impl.Token, string, int) {
	if found := nameRule.FindString(rest); found != "" {
		return impl.Token{Kind: impl.TokAtom, Text: bytesOf(found)}, found, impl.CodeOK
	}
	if found := varRule.FindString(rest); found != "" {
		return impl.Token{Kind: impl.TokVar, Text: bytesOf(found)}, found, impl.CodeOK
	}
	if numberRule.MatchString(rest) {
		found, value, code := referenceNumber(rest)
		return impl.Token{Kind: impl.TokInt, N: value}, found, code
	}
	if endRule.MatchString(rest) {
		return impl.Token{Kind: impl.TokEnd}, ".", impl.CodeOK
	}
	for _, rule := range []*regexp.Regexp{symbolRule, soloRule} {
		if found := rule.FindString(rest); found != "" {
			return impl.Token{Kind: impl.TokAtom, Text: bytesOf(found)}, found, impl.CodeOK
		}
	}
	return referenceQuoted(rest, behindAtom)
}

func referenceQuoted(rest string, behindAtom bool) (impl.Token, string, int) {
	tok, found := impl.Token{}, ""
	if found = atomRule.FindString(rest); found != "" {
		tok = impl.Token{Kind: impl.TokAtom, Text: piecesValue(inAtomPiece, found[1:len(found)-1])}
	} else if found = stringRule.FindString(rest); found != "" {
		tok = impl.Token{Kind: impl.TokString, Text: piecesValue(inTextPiece, found[1:len(found)-1])}
	} else if found = punctRule.FindString(rest); found != "" {
		tok = impl.Token{Kind: impl.TokPunct, Text: bytesOf(found)}
		if found == "(" && behindAtom {
			tok.Kind = impl.TokCall
		}
		return tok, found, impl.CodeOK
	}
	// A quote right behind means that the expression split a doubled one, for want of an end.
	if found == "" || len(rest) > len(found) && rest[len(found)] == rest[0] {
		return tok, "", impl.CodeSyntax
	}
	return tok, found, impl.CodeOK
}

func referenceLex(src []byte) ([]impl.Token, int, int) {
	if len(src) > impl.MaxSource {
		return nil, impl.CodeLimit, impl.MaxSource
	}
	var toks []impl.Token
	rest, at, behindAtom := runesOf(src), 0, false
	for rest != "" {
		skipped := blankRule.FindString(rest) + blockRule.FindString(rest)
		if skipped != "" {
			rest, at, behindAtom = rest[len(skipped):], at+len([]rune(skipped)), false
			continue
		}
		if len(rest) > 1 && rest[:2] == "/*" {
			return nil, impl.CodeSyntax, at
		}
		tok, found, code := referenceToken(rest, behindAtom)
		if code == impl.CodeOK && len(tok.Text) > impl.MaxAtom {
			code = impl.CodeLimit
		}
		if code != impl.CodeOK {
			return nil, code, at
		}
		tok.At, tok.Len = at, len([]rune(found))
		toks = append(toks, tok)
		rest, at, behindAtom = rest[len(found):], at+tok.Len, tok.Kind == impl.TokAtom
	}
	return toks, impl.CodeOK, 0
}

func checkReference(t *testing.T, src []byte) {
	t.Helper()
	got, want := showLex(impl.Lex(src)), showLex(referenceLex(src))
	if got != want {
		t.Errorf("%.200q:\n got %s\nwant %s", src, got, want)
	}
}

func TestReferenceShortTexts(t *testing.T) {
	const among = "aX01x'\"\\.%/*(+n\n !\x7f\xe9"
	var extend func(src []byte, more int)
	extend = func(src []byte, more int) {
		checkReference(t, src)
		for i := 0; more > 0 && i < len(among) && !t.Failed(); i++ {
			extend(append(src, among[i]), more-1)
		}
	}
	extend(nil, 4)
}

var fragments = []string{
	"a", "foo", "X", "_", "_9", "0", "1", "12", "0x1f", "0o17", "0b11", "0'", "0'a", "0'''", "0'\\n", "0x", "999999999999999", "9",
	"'", "''", "\"", "\"\"", "\\", "\\n", "\\x41\\", "\\x", "\\\n", "'a b'", "\"s\"", ".", "..", ". ", ".%", "%", "/*", "*/", "/", "*",
	"+", ":-", "=..", "!", ";", "(", ")", "[", "]", "{", "}", ",", "|", " ", "\n", "\t", "\r", "`", "\x00", "\x7f", "\x80", "\xff",
	"aaaaaaaaaaaaaaaaaaaaaaaaaaaaaaaaaaaaaaaaaaaaaaaaaa", "++++++++++++++++++++++++++++++++++++++++++++++++++",
}

func TestReferenceLongTexts(t *testing.T) {
	d := dice(7)
	for range 60000 {
		var src []byte
		for range 1 + d.below(14) {
			src = append(src, fragments[d.below(len(fragments))]...)
		}
		checkReference(t, src)
		if t.Failed() {
			return
		}
	}
}

// goodFragments leave texts whole more often, so that long ones are read to their end.
var goodFragments = []string{
	"a", "foo(", "X", "_", " 0 ", " 12 ", " 0x1f ", " 0'a ", " 0''' ", "'it''s'", "'\\x41\\ \\n'", "\"s\"\"\"", " \"\"", "'' ", ". ", ".\n", ".%c\n",
	"% c\n", " /* c */ ", "+", ":-", "=..", "!", ";", "(", ")", "[", "]", "{", "}", ",", "|", " ", "\n", "\t", "/", "*",
}

func TestReferenceWholeTexts(t *testing.T) {
	d := dice(11)
	whole := 0
	for range 1500 {
		var src []byte
		for range 1 + d.below(200) {
			src = append(src, goodFragments[d.below(len(goodFragments))]...)
		}
		checkReference(t, src)
		if _, code, _ := impl.Lex(src); code == impl.CodeOK {
			whole++
		}
		if t.Failed() {
			return
		}
	}
	if whole < 100 {
		t.Errorf("only %d texts without a fault", whole)
	}
}

// TestTokensCover holds the gaps between tokens against what may stand there.
func TestTokensCover(t *testing.T) {
	gap := regexp.MustCompile(`^(?:[ \t\n\r]|%[^\n]*(?:\n|$)|(?s:/\*.*?\*/))*$`)
	d := dice(13)
	for range 3000 {
		var src []byte
		for range 1 + d.below(60) {
			src = append(src, goodFragments[d.below(len(goodFragments))]...)
		}
		toks, code, _ := impl.Lex(src)
		if code != impl.CodeOK {
			continue
		}
		end := 0
		for _, tok := range append(toks, impl.Token{At: len(src)}) {
			if tok.At < end || !gap.Match(src[end:tok.At]) {
				t.Fatalf("%q: %q between tokens", src, src[end:max(end, tok.At)])
			}
			end = tok.At + tok.Len
		}
	}
}
