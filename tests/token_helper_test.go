package tests

import (
	"bytes"
	"fmt"
	"strings"
	"testing"

	"loop.example/s00095/impl"
)

// showTokens tells all that tokens hold, so that one comparison of texts sees every field.
func showTokens(toks []impl.Token) string {
	kinds := [...]string{"?", "atom", "var", "int", "string", "punct", "call", "end"}
	var out []string
	for _, tok := range toks {
		kind := fmt.Sprint(tok.Kind)
		if tok.Kind > 0 && tok.Kind < len(kinds) {
			kind = kinds[tok.Kind]
		}
		out = append(out, fmt.Sprintf("%s@%d+%d:%q=%d", kind, tok.At, tok.Len, tok.Text, tok.N))
	}
	return strings.Join(out, " ")
}

func showLex(toks []impl.Token, code int, at int) string {
	return fmt.Sprintf("[%s] %d@%d", showTokens(toks), code, at)
}

func wantTokens(t *testing.T, src string, want ...impl.Token) {
	t.Helper()
	toks, code, at := impl.Lex([]byte(src))
	got, wanted := showLex(toks, code, at), showLex(want, impl.CodeOK, 0)
	if got != wanted {
		t.Errorf("%.60q:\n got %s\nwant %s", src, got, wanted)
	}
}

func wantFault(t *testing.T, src string, code int, at int) {
	t.Helper()
	toks, gotCode, gotAt := impl.Lex([]byte(src))
	if gotCode != code || gotAt != at || len(toks) != 0 {
		t.Errorf("%.60q: %s, want %d@%d and no tokens", src, showLex(toks, gotCode, gotAt), code, at)
	}
}

func atomTok(at int, length int, text string) impl.Token {
	return impl.Token{Kind: impl.TokAtom, At: at, Len: length, Text: []byte(text)}
}

func varTok(at int, text string) impl.Token {
	return impl.Token{Kind: impl.TokVar, At: at, Len: len(text), Text: []byte(text)}
}

func intTok(at int, length int, n int) impl.Token {
	return impl.Token{Kind: impl.TokInt, At: at, Len: length, N: n}
}

func stringTok(at int, length int, text string) impl.Token {
	return impl.Token{Kind: impl.TokString, At: at, Len: length, Text: []byte(text)}
}

func punctTok(at int, text string) impl.Token {
	return impl.Token{Kind: impl.TokPunct, At: at, Len: 1, Text: []byte(text)}
}

func callTok(at int) impl.Token {
	return impl.Token{Kind: impl.TokCall, At: at, Len: 1, Text: []byte("(")}
}

func endTok(at int) impl.Token {
	return impl.Token{Kind: impl.TokEnd, At: at, Len: 1}
}

// dice gives numbers that look mixed and are the same in every run.
type dice uint64

func (d *dice) below(n int) int {
	*d = *d*6364136223846793005 + 1442695040888963407
	return int(uint64(*d) >> 33 % uint64(n))
}

// roomy lays a text amid spare bytes, and answers a check that none of them was written into.
func roomy(text string) ([]byte, func() bool) {
	const spare = "spare bytes"
	all := []byte(spare + text + spare)
	before := bytes.Clone(all)
	return all[len(spare) : len(spare)+len(text)], func() bool { return bytes.Equal(all, before) }
}

// overwrite turns all bytes of a list, the spare ones too.
func overwrite(text []byte) {
	text = text[:cap(text)]
	for i := range text {
		text[i] ^= 0xff
	}
}
