package tests

import (
	"strings"
	"testing"

	"loop.example/s00095/impl"
)

func wantOut(t *testing.T, out string, name string, args ...[]impl.Cell) {
	t.Helper()
	wantEffectOf(t, impl.Effect{Out: []byte(out)}, impl.CodeOK, name, args...)
}

// wantTexts asks for what write gives, and for what writeq and print give.
func wantTexts(t *testing.T, src string, bare string, quoted string) {
	t.Helper()
	wantOut(t, bare, "write", parsed(src))
	wantOut(t, quoted, "writeq", parsed(src))
	wantOut(t, quoted, "print", parsed(src))
}

func TestBuiltinWrite(t *testing.T) {
	wantTexts(t, "'A b'", "A b", "'A b'")
	wantTexts(t, "abc", "abc", "abc")
	wantTexts(t, "''", "", "''")
	wantTexts(t, "'\\n\\x00\\'", "\n\x00", "'\\n\\x00\\'")
	wantTexts(t, "-7", "-7", "-7")
	wantTexts(t, "1+2*3", "1+2*3", "1+2*3")
	wantTexts(t, "(a:-b,c)", "a:-b,c", "a:-b,c")
	wantTexts(t, "[a,'B'|c]", "[a,B|c]", "[a,'B'|c]")
	wantTexts(t, "f('X y',\"ab\",{z})", "f(X y,[97,98],{z})", "f('X y',[97,98],{z})")
	wantTexts(t, "'[]'(a)", "[](a)", "'[]'(a)")
	wantTexts(t, "- (1)", "- 1", "- 1")
	wantTexts(t, "\\+ (a,b)", "\\+ (a,b)", "\\+ (a,b)")
}

// Variables are renumbered, and have no names.
func TestBuiltinWriteVariables(t *testing.T) {
	wantTexts(t, "X7", "_0", "_0")
	wantTexts(t, "X0", "_0", "_0")
	wantTexts(t, "X1000000", "_0", "_0")
	wantTexts(t, "[X7,X3,X7]", "[_0,_1,_0]", "[_0,_1,_0]")
	wantTexts(t, "f(X1,X0,g(X2,X1))", "f(_0,_1,g(_2,_0))", "f(_0,_1,g(_2,_0))")
	wantTexts(t, "X50+X9", "_0+_1", "_0+_1")
}

// It is the table that is handed in by which terms are written.
func TestBuiltinWriteByTable(t *testing.T) {
	x := parsed("likes(a,likes(X4,1+2))")
	for want, ops := range map[string][]impl.Op{
		"a likes (_0 likes 1+2)":    defaultWith(t, op(700, "xfx", "likes")),
		"a likes _0 likes 1+2":      defaultWith(t, op(700, "xfy", "likes")),
		"likes(a,likes(_0,1+2))":    impl.DefaultOps(),
		"likes(a,likes(_0,+(1,2)))": {comma()},
	} {
		for _, name := range []string{"write", "writeq", "print"} {
			if e, code := impl.Builtin(ops, []byte(name), [][]impl.Cell{x}, 0); code != impl.CodeOK || string(e.Out) != want {
				t.Errorf("%s: %d %q, want %q", name, code, e.Out, want)
			}
		}
	}
}

func TestBuiltinWriteAnyTerm(t *testing.T) {
	d := dice(74)
	terms := validTerms()
	for range 500 {
		terms = append(terms, randomTerm(&d, 3))
	}
	for _, x := range terms {
		for name, quoted := range map[string]bool{"write": false, "writeq": true, "print": true} {
			wantOut(t, string(impl.WriteTerm(impl.DefaultOps(), impl.Renumber(x), nil, quoted)), name, x)
		}
	}
}

func TestBuiltinNewLine(t *testing.T) {
	wantOut(t, "\n", "nl")
}

func TestBuiltinTab(t *testing.T) {
	for src, want := range map[string]int{
		"0": 0, "1": 1, "3": 3, "-1": 0, "-1000000000000000": 0, "499": 499, "500": 500, "501": 500, "1000000000000000": 500, "1+1": 2, "3-5": 0, "2^9": 500, "2^9-13": 499, "abs(-4)": 4, "250*2": 500, "10 mod 4": 2, "4294967296": 500, "4294967297": 500,
	} {
		wantOut(t, strings.Repeat(" ", want), "tab", parsed(src))
	}
	wantEffects(t, map[string]string{
		"tab(X1)": "fault instantiation_error", "tab(a)": "fault " + noEvalAtom, "tab(1+a)": "fault " + noEvalAtom, "tab([3])": "fault type_error(evaluable,'.'/2)", "tab(1//0)": "fault evaluation_error(zero_divisor)", "tab(10^16)": "fault evaluation_error(int_overflow)",
		"tab(1>>(-1))": "fault evaluation_error(undefined)", "tab(3^(-1))": "fault type_error(float,3)", "tab(f(X1))": "fault type_error(evaluable,f/1)", "tab([])": "fault type_error(evaluable,[]/0)",
	})
}
