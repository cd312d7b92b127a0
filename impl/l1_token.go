package impl

import (
	"bytes"
	"errors"
	"strconv"
)

const (
	CodeOK     = 0
	CodeBad    = 1
	CodeSyntax = 2
	CodeLimit  = 3
	CodeFail   = 4
	CodeCyclic = 5
	CodeError  = 6
	CodeMore   = 7
	CodeHalt   = 8
	CodeFuel   = 9
	CodeMemory = 10
)

const (
	TokAtom   = 1
	TokVar    = 2
	TokInt    = 3
	TokString = 4
	TokPunct  = 5
	TokCall   = 6
	TokEnd    = 7
)

const (
	MaxSource = 10000
	MaxAtom   = 100
	MaxInt    = 1000000000000000
)

// Token is a piece of a text.
type Token struct {
	Kind int
	At   int
	Len  int
	Text []byte
	N    int
}

type charKind uint8

// Each kind is a bit of its own, so that one look tells whether a byte is of any of several.
const (
	charSmall charKind = 1 << iota
	charLarge
	charDigit
	charSymbol
	charBlank
	charSolo
	charPunct

	charWord = charSmall | charLarge | charDigit
)

// Bytes from 128 on are of no kind, so the table ends ahead of them.
var charKinds = [128]charKind{
	'\t': charBlank, '\n': charBlank, '\r': charBlank, ' ': charBlank,

	'!': charSolo, ';': charSolo,

	'(': charPunct, ')': charPunct, '[': charPunct, ']': charPunct,
	'{': charPunct, '}': charPunct, ',': charPunct, '|': charPunct,

	'+': charSymbol, '-': charSymbol, '*': charSymbol, '/': charSymbol, '\\': charSymbol, '^': charSymbol,
	'<': charSymbol, '>': charSymbol, '=': charSymbol, '~': charSymbol, ':': charSymbol, '.': charSymbol,
	'?': charSymbol, '@': charSymbol, '#': charSymbol, '&': charSymbol, '$': charSymbol,

	'0': charDigit, '1': charDigit, '2': charDigit, '3': charDigit, '4': charDigit,
	'5': charDigit, '6': charDigit, '7': charDigit, '8': charDigit, '9': charDigit,

	'a': charSmall, 'b': charSmall, 'c': charSmall, 'd': charSmall, 'e': charSmall, 'f': charSmall, 'g': charSmall,
	'h': charSmall, 'i': charSmall, 'j': charSmall, 'k': charSmall, 'l': charSmall, 'm': charSmall, 'n': charSmall,
	'o': charSmall, 'p': charSmall, 'q': charSmall, 'r': charSmall, 's': charSmall, 't': charSmall, 'u': charSmall,
	'v': charSmall, 'w': charSmall, 'x': charSmall, 'y': charSmall, 'z': charSmall,

	'A': charLarge, 'B': charLarge, 'C': charLarge, 'D': charLarge, 'E': charLarge, 'F': charLarge, 'G': charLarge,
	'H': charLarge, 'I': charLarge, 'J': charLarge, 'K': charLarge, 'L': charLarge, 'M': charLarge, 'N': charLarge,
	'O': charLarge, 'P': charLarge, 'Q': charLarge, 'R': charLarge, 'S': charLarge, 'T': charLarge, 'U': charLarge,
	'V': charLarge, 'W': charLarge, 'X': charLarge, 'Y': charLarge, 'Z': charLarge, '_': charLarge,
}

// noByte is what stands behind the end of a text. It is no byte, so a text may hold every byte and still end.
const noByte = -1

// isOf answers false for noByte, so a scan stops at the end of a text by itself.
func isOf(b int, kinds charKind) bool {
	return b >= 0 && b < len(charKinds) && charKinds[b]&kinds != 0
}

func allOf(text []byte, kinds charKind) bool {
	for _, b := range text {
		if !isOf(int(b), kinds) {
			return false
		}
	}
	return true
}

// IsPlain answers whether a text is an atom that needs no quotes.
func IsPlain(name []byte) bool {
	if len(name) == 0 || len(name) > MaxAtom {
		return false
	}
	switch string(name) {
	case "!", ";", "[]", "{}":
		return true
	case ".":
		return false
	}
	if isOf(int(name[0]), charSmall) {
		return allOf(name, charWord)
	}
	return allOf(name, charSymbol) && !bytes.HasPrefix(name, []byte("/*"))
}

// QuoteAtom is the text by which an atom is read again; nothing for a text too long to be an atom.
func QuoteAtom(name []byte) []byte {
	if len(name) > MaxAtom {
		return nil
	}
	if IsPlain(name) {
		return bytes.Clone(name)
	}
	out := []byte{'\''}
	for _, b := range name {
		out = appendQuoted(out, b)
	}
	return append(out, '\'')
}

const hexDigits = "0123456789abcdef"

func appendQuoted(out []byte, b byte) []byte {
	switch {
	case b == '\'' || b == '\\':
		return append(out, '\\', b)
	case b == '\n':
		return append(out, '\\', 'n')
	case b == '\t':
		return append(out, '\\', 't')
	case b < ' ' || b > '~':
		return append(out, '\\', 'x', hexDigits[b>>4], hexDigits[b&15], '\\')
	}
	return append(out, b)
}

// scanFault is what the scanner panics with. It is an error, so that Lex knows it from a mistake of the program.
type scanFault struct {
	code int
	at   int
}

func (f scanFault) Error() string {
	return "code " + strconv.Itoa(f.code) + " at " + strconv.Itoa(f.at)
}

// faultOf lets any other panic go on: to answer a code for it would hide a mistake of the program.
func faultOf(r any) scanFault {
	if err, ok := r.(error); ok {
		var fault scanFault
		if errors.As(err, &fault) {
			return fault
		}
	}
	panic(r)
}

// Lex answers the tokens of a text, or the code and the offset of its first fault.
func Lex(src []byte) (toks []Token, code int, at int) {
	if len(src) > MaxSource {
		return nil, CodeLimit, MaxSource
	}
	defer func() {
		if r := recover(); r != nil {
			fault := faultOf(r)
			toks, code, at = nil, fault.code, fault.at
		}
	}()
	s := scanner{src: src}
	for tok := range s.tokens {
		toks = append(toks, tok)
	}
	return toks, CodeOK, 0
}

// scanner stays at the beginning of a token until this is whole, because that is where its faults are told.
type scanner struct {
	src  []byte
	pos  int
	last Token
}

func (s *scanner) tokens(yield func(Token) bool) {
	for s.skipLayout(); s.pos < len(s.src); s.skipLayout() {
		s.last = s.next()
		if !yield(s.last) {
			return
		}
	}
}

func (s *scanner) byteAt(at int) int {
	if at >= len(s.src) {
		return noByte
	}
	return int(s.src[at])
}

func (s *scanner) fault(code int) scanFault {
	return scanFault{code: code, at: s.pos}
}

func (s *scanner) skipLayout() {
	for {
		b := s.byteAt(s.pos)
		switch {
		case isOf(b, charBlank):
			s.pos++
		case b == '%':
			s.skipLine()
		case b == '/' && s.byteAt(s.pos+1) == '*':
			s.skipBlock()
		default:
			return
		}
	}
}

func (s *scanner) skipLine() {
	length := bytes.IndexByte(s.src[s.pos:], '\n')
	if length < 0 {
		length = len(s.src) - s.pos
	}
	s.pos += length
}

func (s *scanner) skipBlock() {
	// The star of the opening must not close it too.
	inside := s.pos + len("/*")
	length := bytes.Index(s.src[inside:], []byte("*/"))
	if length < 0 {
		panic(s.fault(CodeSyntax))
	}
	s.pos = inside + length + len("*/")
}

func (s *scanner) next() Token {
	b := s.byteAt(s.pos)
	switch {
	case isOf(b, charSmall):
		return s.run(TokAtom, charWord)
	case isOf(b, charLarge):
		return s.run(TokVar, charWord)
	case isOf(b, charDigit):
		return s.number()
	case b == '.' && s.endsBehind(s.pos+1):
		return s.take(TokEnd, s.pos+1, nil)
	case isOf(b, charSymbol):
		return s.run(TokAtom, charSymbol)
	case isOf(b, charSolo):
		return s.single(TokAtom)
	case b == '\'':
		return s.quoted(TokAtom)
	case b == '"':
		return s.quoted(TokString)
	case b == '(' && s.isBehindAtom():
		return s.single(TokCall)
	case isOf(b, charPunct):
		return s.single(TokPunct)
	}
	panic(s.fault(CodeSyntax))
}

// take moves the scanner behind a token that is whole.
func (s *scanner) take(kind int, end int, text []byte) Token {
	if len(text) > MaxAtom {
		panic(s.fault(CodeLimit))
	}
	tok := Token{Kind: kind, At: s.pos, Len: end - s.pos, Text: text}
	s.pos = end
	return tok
}

func (s *scanner) single(kind int) Token {
	return s.take(kind, s.pos+1, []byte{s.src[s.pos]})
}

func (s *scanner) run(kind int, kinds charKind) Token {
	end := s.pos
	for isOf(s.byteAt(end), kinds) {
		end++
	}
	return s.take(kind, end, bytes.Clone(s.src[s.pos:end]))
}

func (s *scanner) endsBehind(at int) bool {
	b := s.byteAt(at)
	return b == noByte || b == '%' || isOf(b, charBlank)
}

func (s *scanner) isBehindAtom() bool {
	return s.last.Kind == TokAtom && s.last.At+s.last.Len == s.pos
}

func (s *scanner) number() Token {
	value, end := s.numeral()
	if isOf(s.byteAt(end), charWord) {
		panic(s.fault(CodeSyntax))
	}
	if value > MaxInt {
		panic(s.fault(CodeLimit))
	}
	tok := s.take(TokInt, end, nil)
	tok.N = value
	return tok
}

// numeral answers a value and where it ends, as do all that it is made of.
func (s *scanner) numeral() (int, int) {
	if s.byteAt(s.pos) != '0' {
		return s.digits(s.pos, 10)
	}
	mark := s.byteAt(s.pos + 1)
	if mark == '\'' {
		return s.character(s.pos + 2)
	}
	base := baseOf(mark)
	if digitValue(s.byteAt(s.pos+2)) < base {
		return s.digits(s.pos+2, base)
	}
	return s.digits(s.pos, 10)
}

// baseOf answers 0 where there is no base: no digit is below it.
func baseOf(mark int) int {
	switch mark {
	case 'x':
		return 16
	case 'o':
		return 8
	case 'b':
		return 2
	}
	return 0
}

// digitValue answers 16 for what is no digit: it is below no base.
func digitValue(b int) int {
	switch {
	case b >= '0' && b <= '9':
		return b - '0'
	case b >= 'a' && b <= 'f':
		return b - 'a' + 10
	case b >= 'A' && b <= 'F':
		return b - 'A' + 10
	}
	return 16
}

func (s *scanner) digits(at int, base int) (int, int) {
	value := 0
	for digitValue(s.byteAt(at)) < base {
		// However many digits there are, the value stays at one too many rather than wrap round.
		value = min(value*base+digitValue(s.byteAt(at)), MaxInt+1)
		at++
	}
	return value, at
}

func (s *scanner) character(at int) (int, int) {
	b := s.byteAt(at)
	switch {
	case b == '\'' && s.byteAt(at+1) == '\'':
		return b, at + 2
	case b == '\\':
		return s.escape(at)
	case b == '\'' || !standsForItself(b):
		panic(s.fault(CodeSyntax))
	}
	return b, at + 1
}

func standsForItself(b int) bool {
	return b >= ' ' && b != 127
}

func (s *scanner) escape(at int) (int, int) {
	b := s.byteAt(at + 1)
	switch b {
	case '\\', '\'', '"':
		return b, at + 2
	case 'n':
		return '\n', at + 2
	case 't':
		return '\t', at + 2
	case 'r':
		return '\r', at + 2
	case 'x':
		return s.hexEscape(at + 2)
	}
	panic(s.fault(CodeSyntax))
}

func (s *scanner) hexEscape(at int) (int, int) {
	value, end := s.digits(at, 16)
	if end == at || end > at+2 || s.byteAt(end) != '\\' {
		panic(s.fault(CodeSyntax))
	}
	return value, end + 1
}

func (s *scanner) quoted(kind int) Token {
	quote := s.byteAt(s.pos)
	var text []byte
	at := s.pos + 1
	for {
		b, next := s.byteAt(at), s.byteAt(at+1)
		switch {
		case b == quote && next != quote:
			return s.take(kind, at+1, text)
		case b == quote:
			at += 2
		case b == '\\' && next == '\n':
			at += 2
			continue
		case b == '\\':
			b, at = s.escape(at)
		case standsForItself(b):
			at++
		default:
			panic(s.fault(CodeSyntax))
		}
		text = append(text, byte(b))
	}
}
