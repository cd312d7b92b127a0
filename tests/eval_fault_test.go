package tests

import (
	"fmt"
	"slices"
	"strings"
	"testing"

	"loop.example/s00095/impl"
)

// notEvaluable is the error term of a name and an arity, made here without a call of the program.
func notEvaluable(name string, arity int) []impl.Cell {
	return compTerm("type_error", atomTerm("evaluable"), compTerm("/", atomTerm(name), intTerm(arity)))
}

func ones(n int) [][]impl.Cell {
	return slices.Repeat([][]impl.Cell{intTerm(1)}, n)
}

func TestEvalVariables(t *testing.T) {
	for _, n := range []int{0, 1, 99, impl.MaxVar} {
		wantFaultTerm(t, fmt.Sprint("variable ", n), varTerm(n), instantiation)
	}
	for _, name := range unaryNames {
		wantFaultTerm(t, name, compTerm(name, varTerm(3)), instantiation)
	}
	for _, name := range binaryNames {
		for _, args := range [][2][]impl.Cell{{varTerm(0), intTerm(1)}, {intTerm(1), varTerm(0)}, {varTerm(0), varTerm(0)}, {varTerm(2), varTerm(1)}} {
			wantFaultTerm(t, name, compTerm(name, args[0], args[1]), instantiation)
		}
	}
}

func TestEvalAtoms(t *testing.T) {
	names := []string{"a", "foo", "", "[]", "{}", "!", "/", ".", "e", "pi", "inf", "max_integer", "random", "1", "X", "\x00", "\xff", strings.Repeat("n", impl.MaxAtom)}
	for _, name := range slices.Concat(names, unaryNames, binaryNames) {
		wantEval(t, name, atomTerm(name), notEvaluable(name, 0), impl.CodeError)
	}
}

func TestEvalUnknownCompounds(t *testing.T) {
	names := []string{"foo", "", "[]", "{}", ".", "/", ",", "=", "a", "ABS", "Abs", "abs ", "div", "divs", "gcd", "msb", "succ", "plus", "truncate", "mods", "<", `\\`, `\+`, "///", "***", "^^", ">>>", "sig", "signs", "\xff", strings.Repeat("n", impl.MaxAtom)}
	for _, name := range names {
		for _, arity := range []int{1, 2, 3, impl.MaxArity} {
			wantEval(t, fmt.Sprintf("%q/%d", name, arity), compTerm(name, ones(arity)...), notEvaluable(name, arity), impl.CodeError)
		}
	}
	wantEval(t, "[1]", parsed("[1]"), notEvaluable(".", 2), impl.CodeError)
	wantEval(t, `"a"`, parsed(`"a"`), notEvaluable(".", 2), impl.CodeError)
	wantEval(t, "{1}", parsed("{1}"), notEvaluable("{}", 1), impl.CodeError)
	wantEval(t, "4/2", parsed("4/2"), notEvaluable("/", 2), impl.CodeError)
}

// Each name has a value with its own arities alone.
func TestEvalArities(t *testing.T) {
	for _, name := range slices.Concat(unaryNames, binaryNames) {
		for arity := 1; arity <= impl.MaxArity; arity++ {
			x := compTerm(name, ones(arity)...)
			isKnown := arity == 1 && slices.Contains(unaryNames, name) || arity == 2 && slices.Contains(binaryNames, name)
			if isKnown {
				if answer, code := impl.Eval(x); code != impl.CodeOK || len(answer) != 1 || answer[0].Kind != impl.TermInt {
					t.Errorf("%s/%d of ones: %s", name, arity, showEval(answer, code))
				}
				continue
			}
			wantEval(t, fmt.Sprintf("%s/%d", name, arity), x, notEvaluable(name, arity), impl.CodeError)
		}
	}
}

// What has no value has none whatever its arguments are: these are not looked at.
func TestEvalNameAheadOfArguments(t *testing.T) {
	for src, want := range map[string]string{
		"foo(X0)": "foo/1", "foo(X0,1//0)": "foo/2", "foo(bar(1))": "foo/1", "foo(10^16)": "foo/1", "abs(X0,1)": "abs/2", "abs(1//0,1)": "abs/2",
		"mod(X0)": "(mod)/1", "-(X0,X1,X2)": "(-)/3", "min(a)": "min/1", "max(a,b,c)": "max/3", "[X0|X1]": "'.'/2", "X0/X1": "(/)/2", "(1//0)/(1//0)": "(/)/2",
		"1+foo(X0)": "foo/1", "foo(X0)+X1": "foo/1", "-foo(1//0)": "foo/1", "2*(3-foo(10^16))": "foo/1",
	} {
		wantFaultTerm(t, src, parsed(src), "type_error(evaluable,"+want+")")
	}
}

// faultyParts are terms with an error term each.
var faultyParts = []struct{ src, fault string }{
	{"X0", instantiation}, {"a", "type_error(evaluable,a/0)"}, {"foo(X1,2)", "type_error(evaluable,foo/2)"}, {"(7//0)", zeroDivisor}, {"(0^(-1))", zeroDivisor},
	{"(1<<(-1))", undefined}, {"(3**(-2))", "type_error(float,3)"}, {"(10^16)", intOverflow}, {"(1000000000000000+1)", intOverflow},
	{"(5-[])", "type_error(evaluable,[]/0)"}, {"abs(X2)", instantiation}, {"(4294967296*4294967296)", intOverflow}, {"(1<<1000000000000000)", intOverflow},
}

// The first argument's fault comes ahead of the second's, and either ahead of what the operation itself would tell.
func TestEvalFaultOrder(t *testing.T) {
	for _, name := range binaryNames {
		for _, first := range faultyParts {
			a := parsed(first.src)
			for _, second := range faultyParts {
				wantFaultTerm(t, first.src+" "+name+" "+second.src, compTerm(name, a, parsed(second.src)), first.fault)
			}
			for _, n := range []int{0, 1, -1, 2, -2, impl.MaxInt, -impl.MaxInt} {
				wantFaultTerm(t, fmt.Sprint(first.src, name, n), compTerm(name, a, intTerm(n)), first.fault)
				wantFaultTerm(t, fmt.Sprint(n, name, first.src), compTerm(name, intTerm(n), a), first.fault)
			}
		}
	}
	for _, name := range unaryNames {
		for _, part := range faultyParts {
			wantFaultTerm(t, name+" "+part.src, compTerm(name, parsed(part.src)), part.fault)
		}
	}
}

func TestEvalFaultOrderNested(t *testing.T) {
	wantFaultTerms(t, instantiation, "1+X0", "X0+a", "X0//0", "1//X0", "(1+X0)+a", "(1+X0)//(1-1)", "(1+(2+X0))*(a+b)", "2^(-X0)", "min(1,max(X0,a))", "X0<<(-1)", "X0+10^16", "-(X0)+1//0")
	wantFaultTerms(t, "type_error(evaluable,a/0)", "a+X0", "1+(2+a)", "(1+a)+X0", "a//0", "(3-2)*(a+b)", "a^(-1)", "1+a+b", "(1+2)*(3+(a-b))", "a<<(-1)", "a+10^16")
	wantFaultTerms(t, "type_error(evaluable,b/0)", "b+a", "(1+b)+a", "1+(b+a)", "(b+1)//0")
	wantFaultTerms(t, zeroDivisor, "(1//0)+a", "(1//0)+X0", "1//(1-1)", "(5 mod(2-2))*(10^16)", "1+(2 rem 0+X0)", "(1//0)^(-1)", "0^(-1)+2^(-1)", "(1-1)^(1-2)")
	wantFaultTerms(t, undefined, "(1<<(-1))+a", "1>>(1-2)", "(0<<(0-1))*X0", "1<<(-1)//0", "(1>>(-1))//0")
	wantFaultTerms(t, "type_error(float,6)", "(2*3)^(-1)", "(2*3)**(0-1)", "6^(-1)+a", "(6^(-2))//0")
	wantFaultTerms(t, "type_error(float,-6)", "(-6)^(-1)", "(0-6)**(-3)")
	wantFaultTerms(t, intOverflow, "10^16+a", "(10^16)*0", "0*(10^16)", "(10^16)//0", "1//(10^16)", "(10^16)-(10^16)", "1<<(10^16)", "(-1)^(10^16)", "sign(10^16)", "min(1,10^16)", "10^16+X0", "(10^16)^(-1)", "1>>(10^16)", "0/\\(1<<50)")
}
