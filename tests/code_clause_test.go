package tests

import (
	"fmt"
	"strings"
	"testing"

	"loop.example/s00095/impl"
)

func TestCodeConstants(t *testing.T) {
	numbers := []int{
		impl.InsGetVar, impl.InsGetVal, impl.InsGetConst, impl.InsGetStruct, impl.InsUnifyVar, impl.InsUnifyVal, impl.InsUnifyConst, impl.InsUnifyVoid,
		impl.InsPutVar, impl.InsPutVal, impl.InsPutConst, impl.InsPutVoid, impl.InsPutStruct, impl.InsSetVar, impl.InsSetVal, impl.InsSetConst, impl.InsSetVoid,
		impl.InsAllocate, impl.InsDeallocate, impl.InsCall, impl.InsExecute, impl.InsProceed, impl.InsBuiltin, impl.InsLevel, impl.InsMark, impl.InsCut,
		impl.InsFail, impl.InsStop, impl.InsUncatch, impl.InsTry, impl.InsRetry, impl.InsTrust, impl.InsSwitch,
	}
	for i, n := range numbers {
		if n != i {
			t.Errorf("instruction %d is %d", i, n)
		}
	}
	if len(numbers) != len(insWords) || impl.VarVoid != 0 || impl.VarTemp != 1 || impl.VarPerm != 2 || impl.MaxCode != 20000 {
		t.Errorf("%d instructions, %d %d %d, %d", len(numbers), impl.VarVoid, impl.VarTemp, impl.VarPerm, impl.MaxCode)
	}
}

func TestCompileHeadArguments(t *testing.T) {
	wantCompiled(t, map[string]string{
		"p :- true":                    "proceed",
		"p(_) :- true":                 "proceed",
		"p(_,_,_) :- true":             "proceed",
		"p(A,A) :- true":               "getvar x2 a0, getval x2 a1, proceed",
		"p(A,A,A) :- true":             "getvar x3 a0, getval x3 a1, getval x3 a2, proceed",
		"p(_,A,_,A) :- true":           "getvar x4 a1, getval x4 a3, proceed",
		"p(A,B,B,A) :- true":           "getvar x4 a0, getvar x5 a1, getval x5 a2, getval x4 a3, proceed",
		"p(a) :- true":                 "getconst a a0, proceed",
		"p(_,[],-7,{},0) :- true":      "getconst [] a1, getconst -7 a2, getconst {} a3, getconst 0 a4, proceed",
		"p(A) :- q, r(A)":              "allocate a1, getvar y0 a0, call q/0, putval y0 a0, deallocate, execute r/1",
		"p(A,A) :- q, r(A)":            "allocate a1, getvar y0 a0, getval y0 a1, call q/0, putval y0 a0, deallocate, execute r/1",
		"p(A,b,B,A) :- q(B), r(A,B)":   "allocate a2, getvar y0 a0, getconst b a1, getvar y1 a2, getval y0 a3, putval y1 a0, call q/1, putval y0 a0, putval y1 a1, deallocate, execute r/2",
		"p(A,B,A,B) :- q(B), r(B)":     "allocate a1, getvar x4 a0, getvar y0 a1, getval x4 a2, getval y0 a3, putval y0 a0, call q/1, putval y0 a0, deallocate, execute r/1",
		"p(1000000000000000) :- true":  "getconst 1000000000000000 a0, proceed",
		"p(-1000000000000000) :- true": "getconst -1000000000000000 a0, proceed",
	})
	wantIns(t, "names with blanks", compTerm(":-", compTerm("p", atomTerm("a b"), atomTerm("")), atomTerm("true")), []impl.Ins{
		{Op: impl.InsGetConst, C: atomTerm("a b")[0]}, {Op: impl.InsGetConst, A: 1, C: atomTerm("")[0]}, {Op: impl.InsProceed},
	})
}

func TestCompileHeadCompounds(t *testing.T) {
	wantCompiled(t, map[string]string{
		"p(f(_)) :- true":               "getstruct f/1 a0, unifyvoid, proceed",
		"p(f(A,A,_,b,3,A)) :- true":     "getstruct f/6 a0, unifyvar x1, unifyval x1, unifyvoid, unifyconst b, unifyconst 3, unifyval x1, proceed",
		"p(A,f(A)) :- true":             "getvar x2 a0, getstruct f/1 a1, unifyval x2, proceed",
		"p(f(A),A) :- true":             "getstruct f/1 a0, unifyvar x2, getval x2 a1, proceed",
		"p(f(A),_,g(A)) :- true":        "getstruct f/1 a0, unifyvar x3, getstruct g/1 a2, unifyval x3, proceed",
		"p(f(A),A) :- q, r(A)":          "allocate a1, getstruct f/1 a0, unifyvar y0, getval y0 a1, call q/0, putval y0 a0, deallocate, execute r/1",
		"p(A,f(A)) :- q, r(A)":          "allocate a1, getvar y0 a0, getstruct f/1 a1, unifyval y0, call q/0, putval y0 a0, deallocate, execute r/1",
		"p('[]'([],{})) :- true":        "getstruct []/2 a0, unifyconst [], unifyconst {}, proceed",
		"p([a|A],A) :- true":            "getstruct ./2 a0, unifyconst a, unifyvar x2, getval x2 a1, proceed",
		"p(f(a,b,c,d,e,f,g,h)) :- true": "getstruct f/8 a0, unifyconst a, unifyconst b, unifyconst c, unifyconst d, unifyconst e, unifyconst f, unifyconst g, unifyconst h, proceed",
	})
}

// What is within compounds of the head comes behind all that is less deep in the same argument, and ahead of the next one.
func TestCompileHeadQueue(t *testing.T) {
	wantCompiled(t, map[string]string{
		"p(f(g(a))) :- true":          "getstruct f/1 a0, unifyvar x1, getstruct g/1 a1, unifyconst a, proceed",
		"p(f(g(a)),b) :- true":        "getstruct f/1 a0, unifyvar x2, getstruct g/1 a2, unifyconst a, getconst b a1, proceed",
		"p(f(g(a),A),h(A)) :- true":   "getstruct f/2 a0, unifyvar x2, unifyvar x3, getstruct g/1 a2, unifyconst a, getstruct h/1 a1, unifyval x3, proceed",
		"p(f(g(_),h(_))) :- true":     "getstruct f/2 a0, unifyvar x1, unifyvar x2, getstruct g/1 a1, unifyvoid, getstruct h/1 a2, unifyvoid, proceed",
		"p(f(g(h(i(a))),b)) :- true":  "getstruct f/2 a0, unifyvar x1, unifyconst b, getstruct g/1 a1, unifyvar x2, getstruct h/1 a2, unifyvar x3, getstruct i/1 a3, unifyconst a, proceed",
		"p(f(g(A),B),A,B) :- true":    "getstruct f/2 a0, unifyvar x3, unifyvar x4, getstruct g/1 a3, unifyvar x5, getval x5 a1, getval x4 a2, proceed",
		"p(f(g(A),A)) :- true":        "getstruct f/2 a0, unifyvar x1, unifyvar x2, getstruct g/1 a1, unifyval x2, proceed",
		"p(f(g(A),B)) :- q(A,B)":      "getstruct f/2 a0, unifyvar x2, unifyvar x3, getstruct g/1 a2, unifyvar x4, putval x4 a0, putval x3 a1, execute q/2",
		"p(f(g(A),B)) :- q, r(A,B)":   "allocate a2, getstruct f/2 a0, unifyvar x2, unifyvar y1, getstruct g/1 a2, unifyvar y0, call q/0, putval y0 a0, putval y1 a1, deallocate, execute r/2",
		"p([a,B|C]) :- q(B,C)":        "getstruct ./2 a0, unifyconst a, unifyvar x2, getstruct ./2 a2, unifyvar x3, unifyvar x4, putval x3 a0, putval x4 a1, execute q/2",
		"p(f(f(f(A)),f(f(A)))):-true": "getstruct f/2 a0, unifyvar x1, unifyvar x2, getstruct f/1 a1, unifyvar x3, getstruct f/1 a2, unifyvar x4, getstruct f/1 a3, unifyvar x5, getstruct f/1 a4, unifyval x5, proceed",
		"p(f(g(A,h(b)),i(j(c),A)),k(l(A))) :- true": "getstruct f/2 a0, unifyvar x2, unifyvar x3, getstruct g/2 a2, unifyvar x4, unifyvar x5, getstruct i/2 a3, unifyvar x6, unifyval x4, " +
			"getstruct h/1 a5, unifyconst b, getstruct j/1 a6, unifyconst c, getstruct k/1 a1, unifyvar x7, getstruct l/1 a7, unifyval x4, proceed",
	})
}

func TestCompileGoalArguments(t *testing.T) {
	wantCompiled(t, map[string]string{
		"p :- q(_)":                    "putvoid a0, execute q/1",
		"p :- q(A,A,_,b,3)":            "putvar x5 a0, putval x5 a1, putvoid a2, putconst b a3, putconst 3 a4, execute q/5",
		"p(A) :- q(A)":                 "getvar x1 a0, putval x1 a0, execute q/1",
		"p(A,B) :- q(B,A)":             "getvar x2 a0, getvar x3 a1, putval x3 a0, putval x2 a1, execute q/2",
		"p(A) :- q(b,c,d,A)":           "getvar x4 a0, putconst b a0, putconst c a1, putconst d a2, putval x4 a3, execute q/4",
		"p :- q(A,A), r(A)":            "allocate a1, putvar y0 a0, putval y0 a1, call q/2, putval y0 a0, deallocate, execute r/1",
		"p :- q(A), r(A,B), s(B,A)":    "allocate a2, putvar y0 a0, call q/1, putval y0 a0, putvar y1 a1, call r/2, putval y1 a0, putval y0 a1, deallocate, execute s/2",
		"p :- q, r(A,A), s(_)":         "allocate a0, call q/0, putvar x2 a0, putval x2 a1, call r/2, putvoid a0, deallocate, execute s/1",
		"p :- q(A,A), r(B,B)":          "allocate a0, putvar x2 a0, putval x2 a1, call q/2, putvar x3 a0, putval x3 a1, deallocate, execute r/2",
		"p(A,B,C) :- q(C), r(B), s(A)": "allocate a2, getvar y0 a0, getvar y1 a1, getvar x3 a2, putval x3 a0, call q/1, putval y1 a0, call r/1, putval y0 a0, deallocate, execute s/1",
	})
}

// What is within compounds of a goal is built ahead of them.
func TestCompileGoalCompounds(t *testing.T) {
	wantCompiled(t, map[string]string{
		"p :- q(f(_))":              "putstruct f/1 x0, setvoid, execute q/1",
		"p :- q(f(A,A,_,b,3,A))":    "putstruct f/6 x0, setvar x1, setval x1, setvoid, setconst b, setconst 3, setval x1, execute q/1",
		"p :- q(a,f(b),c,g(d))":     "putconst a a0, putstruct f/1 x1, setconst b, putconst c a2, putstruct g/1 x3, setconst d, execute q/4",
		"p(A) :- q(f(A))":           "getvar x1 a0, putstruct f/1 x0, setval x1, execute q/1",
		"p :- q(A,f(A))":            "putvar x2 a0, putstruct f/1 x1, setval x2, execute q/2",
		"p :- q(f(A),A)":            "putstruct f/1 x0, setvar x2, putval x2 a1, execute q/2",
		"p :- q(f(A)), r(A)":        "allocate a1, putstruct f/1 x0, setvar y0, call q/1, putval y0 a0, deallocate, execute r/1",
		"p :- q(A), r(f(A))":        "allocate a1, putvar y0 a0, call q/1, putstruct f/1 x0, setval y0, deallocate, execute r/1",
		"p :- q([a])":               "putstruct ./2 x0, setconst a, setconst [], execute q/1",
		"p :- q([a,b])":             "putstruct ./2 x1, setconst b, setconst [], putstruct ./2 x0, setconst a, setval x1, execute q/1",
		"p :- q(f(g(a)))":           "putstruct g/1 x1, setconst a, putstruct f/1 x0, setval x1, execute q/1",
		"p :- q(f(g(h(i(a))),b))":   "putstruct i/1 x3, setconst a, putstruct h/1 x2, setval x3, putstruct g/1 x1, setval x2, putstruct f/2 x0, setval x1, setconst b, execute q/1",
		"p :- q(f(g(a),h(b)))":      "putstruct g/1 x1, setconst a, putstruct h/1 x2, setconst b, putstruct f/2 x0, setval x1, setval x2, execute q/1",
		"p :- q(f(A,g(A)))":         "putstruct g/1 x1, setvar x2, putstruct f/2 x0, setval x2, setval x1, execute q/1",
		"p :- q(f(A,g(B)),A,B)":     "putstruct g/1 x3, setvar x4, putstruct f/2 x0, setvar x5, setval x3, putval x5 a1, putval x4 a2, execute q/3",
		"p :- q(f(A,g(B))), r(A,B)": "allocate a2, putstruct g/1 x2, setvar y1, putstruct f/2 x0, setvar y0, setval x2, call q/1, putval y0 a0, putval y1 a1, deallocate, execute r/2",
		"p :- q(f(g(A,h(b)),i(j(c),A)),k(l(A)))": "putstruct h/1 x3, setconst b, putstruct g/2 x2, setvar x4, setval x3, putstruct j/1 x6, setconst c, putstruct i/2 x5, setval x6, setval x4, " +
			"putstruct f/2 x0, setval x2, setval x5, putstruct l/1 x7, setval x4, putstruct k/1 x1, setval x7, execute q/2",
		"p(f(g(a))) :- q(f(g(b)))":    "getstruct f/1 a0, unifyvar x1, getstruct g/1 a1, unifyconst a, putstruct g/1 x2, setconst b, putstruct f/1 x0, setval x2, execute q/1",
		"p(A) :- A = f(g(B)), q(B,A)": "getvar x2 a0, putval x2 a0, putstruct g/1 x3, setvar x4, putstruct f/1 x1, setval x3, builtin =/2, putval x4 a0, putval x2 a1, execute q/2",
	})
}

func TestCompileChoices(t *testing.T) {
	wantCompiled(t, map[string]string{
		"p :- '$level'(_)": "level x255, proceed",
		"p :- '$mark'(_)":  "mark x255, proceed",
		"p :- '$cut'(_)":   "cut x255, proceed",
		"p :- '$level'(_), '$mark'(_), '$cut'(_), q":             "level x255, mark x255, cut x255, execute q/0",
		"p :- q, '$level'(_)":                                    "allocate a0, call q/0, level x255, deallocate, proceed",
		"p :- '$level'(A), '$mark'(B), '$cut'(A), '$cut'(B)":     "level x1, mark x2, cut x1, cut x2, proceed",
		"p :- '$level'(A), '$cut'(A), '$cut'(A)":                 "level x1, cut x1, cut x1, proceed",
		"p :- '$level'(A), q, '$cut'(A)":                         "allocate a1, level y0, call q/0, cut y0, deallocate, proceed",
		"p :- q, '$mark'(A), r, '$cut'(A), s":                    "allocate a1, call q/0, mark y0, call r/0, cut y0, deallocate, execute s/0",
		"p :- '$level'(A), '$mark'(B), q, '$cut'(B), '$cut'(A)":  "allocate a2, level y0, mark y1, call q/0, cut y1, cut y0, deallocate, proceed",
		"p(_,_,_) :- '$level'(A), q(A)":                          "level x3, putval x3 a0, execute q/1",
		"p(A) :- '$level'(A)":                                    "getvar x1 a0, level x1, proceed",
		"p(f(A)) :- '$cut'(A)":                                   "getstruct f/1 a0, unifyvar x1, cut x1, proceed",
		"p :- '$cut'(A), q(A)":                                   "cut x1, putval x1 a0, execute q/1",
		"p :- '$mark'(A), q(f(A))":                               "mark x1, putstruct f/1 x0, setval x1, execute q/1",
		"p :- '$cut'(A), q, r(A)":                                "allocate a1, cut y0, call q/0, putval y0 a0, deallocate, execute r/1",
		"p(A) :- '$level'(B), '$1'(A,B)":                         "getvar x2 a0, level x3, putval x2 a0, putval x3 a1, execute $1/2",
		"p(A) :- '$level'(B), q(A), '$cut'(B)":                   "allocate a1, getvar x1 a0, level y0, putval x1 a0, call q/1, cut y0, deallocate, proceed",
		"'$1'(A,B) :- '$level'(C), q(A), '$cut'(C), '$cut'(B)":   "allocate a2, getvar x2 a0, getvar y0 a1, level y1, putval x2 a0, call q/1, cut y1, cut y0, deallocate, proceed",
		"p :- '$level', '$mark'(A,A), '$cut'(b,c)":               "allocate a0, call $level/0, putvar x2 a0, putval x2 a1, call $mark/2, putconst b a0, putconst c a1, deallocate, execute $cut/2",
		"p :- '$level'(A,A), '$mark', '$cut'":                    "allocate a0, putvar x2 a0, putval x2 a1, call $level/2, call $mark/0, deallocate, execute $cut/0",
		"p :- '$level'(A), nl, '$cut'(A), q(B,B), '$cut'(_), nl": "allocate a0, level x2, builtin nl/0, cut x2, putvar x3 a0, putval x3 a1, call q/2, cut x255, builtin nl/0, deallocate, proceed",
	})
}

func TestCompileEnvironments(t *testing.T) {
	wantCompiled(t, map[string]string{
		"p :- q":                       "execute q/0",
		"p :- nl":                      "builtin nl/0, proceed",
		"p :- fail":                    "builtin fail/0, proceed",
		"p :- nl, nl":                  "builtin nl/0, builtin nl/0, proceed",
		"p :- nl, q":                   "builtin nl/0, execute q/0",
		"p :- nl, true, q":             "builtin nl/0, builtin true/0, execute q/0",
		"p :- true, true":              "builtin true/0, builtin true/0, proceed",
		"p :- q, nl":                   "allocate a0, call q/0, builtin nl/0, deallocate, proceed",
		"p :- q, true":                 "allocate a0, call q/0, builtin true/0, deallocate, proceed",
		"p :- q, r":                    "allocate a0, call q/0, deallocate, execute r/0",
		"p :- nl, q, nl, r":            "allocate a0, builtin nl/0, call q/0, builtin nl/0, deallocate, execute r/0",
		"p :- q, r, s":                 "allocate a0, call q/0, call r/0, deallocate, execute s/0",
		"p :- q, r, nl, nl":            "allocate a0, call q/0, call r/0, builtin nl/0, builtin nl/0, deallocate, proceed",
		"p(A) :- call(A)":              "getvar x1 a0, putval x1 a0, execute call/1",
		"p(A) :- call(A), halt":        "allocate a0, getvar x1 a0, putval x1 a0, call call/1, deallocate, execute halt/0",
		"p :- write(A), write(A)":      "putvar x1 a0, builtin write/1, putval x1 a0, builtin write/1, proceed",
		"p(A) :- q, write(A)":          "allocate a1, getvar y0 a0, call q/0, putval y0 a0, builtin write/1, deallocate, proceed",
		"p(A,B) :- A is B + 1":         "getvar x2 a0, getvar x3 a1, putval x2 a0, putstruct +/2 x1, setval x3, setconst 1, builtin is/2, proceed",
		"p :- write(a,b), nl(c), true": "allocate a0, putconst a a0, putconst b a1, call write/2, putconst c a0, call nl/1, builtin true/0, deallocate, proceed",
		"p :- [], {}, '', p":           "allocate a0, call []/0, call {}/0, call \"\"/0, deallocate, execute p/0",
		"p :- ','(a,b,c), !(d)":        "allocate a0, putconst a a0, putconst b a1, putconst c a2, call ,/3, putconst d a0, deallocate, execute !/1",
	})
	for name, arity := range builtinArities {
		code := strings.Split(manyOf(arity, ", ", numbered("putconst c a%d")), ", ")[:arity]
		code = append(code, fmt.Sprintf("builtin %s/%d", name, arity))
		wantIns(t, name, compTerm(":-", atomTerm("p"), compTerm(",", goalOf(name, arity), atomTerm("q"))), codeOf(strings.Join(append(code, "execute q/0"), ", ")))
	}
}

// Permanent variables are numbered by their places in the clause, whichever of them the code comes to first.
func TestCompilePermanentNumbers(t *testing.T) {
	wantCompiled(t, map[string]string{
		"p(A,B,C) :- q, r(C), s(A)":            "allocate a2, getvar y0 a0, getvar y1 a2, call q/0, putval y1 a0, call r/1, putval y0 a0, deallocate, execute s/1",
		"p(f(g(A),B),C) :- q, r(C,B,A)":        "allocate a3, getstruct f/2 a0, unifyvar x3, unifyvar y1, getstruct g/1 a3, unifyvar y0, getvar y2 a1, call q/0, putval y2 a0, putval y1 a1, putval y0 a2, deallocate, execute r/3",
		"p(A,A) :- q(B), r(C,C), s(D), t(D,B)": "allocate a2, getvar x2 a0, getval x2 a1, putvar y0 a0, call q/1, putvar x3 a0, putval x3 a1, call r/2, putvar y1 a0, call s/1, putval y1 a0, putval y0 a1, deallocate, execute t/2",
	})
	var calls, code []string
	for i := range 300 {
		calls, code = append(calls, fmt.Sprintf("q(A%d)", i)), append(code, fmt.Sprintf("putvar y%d a0, call q/1", i))
	}
	for i := range 300 {
		calls, code = append(calls, fmt.Sprintf("q(A%d)", i)), append(code, fmt.Sprintf("putval y%d a0, call q/1", i))
	}
	code[len(code)-1] = "putval y299 a0, deallocate, execute q/1"
	clause := impl.Renumber(parsed("p :- " + strings.ReplaceAll(strings.Join(calls, ","), "A", "X")))
	wantIns(t, "300 permanent variables", clause, codeOf("allocate a300, "+strings.Join(code, ", ")))
}

// wantLastRegister asks that clauses made for a number of registers are compiled up to X255, and not beyond.
func wantLastRegister(t *testing.T, what string, first int, clause func(registers int) []impl.Cell) {
	t.Helper()
	registers := 256 - first
	ins, code := impl.CompileClause(clause(registers))
	greatest := 0
	for _, i := range ins {
		greatest = max(greatest, i.R)
	}
	if code != impl.CodeOK || greatest != 255 {
		t.Errorf("%s: %d, the last register is X%d", what, code, greatest)
	}
	for _, more := range []int{1, 2, 10} {
		wantNoClause(t, what, clause(registers+more), impl.CodeLimit)
	}
}

// rule is a clause in cells, its variables by their first places.
func rule(head []impl.Cell, goals ...[]impl.Cell) []impl.Cell {
	body := goals[len(goals)-1]
	for i := len(goals) - 2; i >= 0; i-- {
		body = compTerm(",", goals[i], body)
	}
	return impl.Renumber(compTerm(":-", head, body))
}

func TestCompileLastRegister(t *testing.T) {
	p, truth := atomTerm("p"), atomTerm("true")
	wantLastRegister(t, "compounds of the head", 1, func(n int) []impl.Cell {
		return rule(compTerm("p", within(atomTerm("a"), "f", n+1)), truth)
	})
	wantLastRegister(t, "compounds of the head, with wider goals", 20, func(n int) []impl.Cell {
		return rule(compTerm("p", within(atomTerm("a"), "f", n+1)), goalOf("q", 20), goalOf("nl", 0))
	})
	wantLastRegister(t, "compounds of a goal", 1, func(n int) []impl.Cell {
		return rule(p, compTerm("q", within(atomTerm("a"), "f", n+1)))
	})
	wantLastRegister(t, "compounds of the head and of goals", 3, func(n int) []impl.Cell {
		return rule(compTerm("p", within(atomTerm("a"), "f", 101)), compTerm("q", atomTerm("a"), atomTerm("b"), within(atomTerm("a"), "f", n-100)), compTerm("write", within(atomTerm("a"), "f", 2)))
	})
	wantLastRegister(t, "variables of goals", 2, func(n int) []impl.Cell {
		var goals [][]impl.Cell
		for i := range n {
			goals = append(goals, compTerm("q", varTerm(i), varTerm(i)))
		}
		return rule(p, goals...)
	})
	wantLastRegister(t, "variables of the head", 1, func(n int) []impl.Cell {
		// 520 items are in 28 compounds, and all of these but the first have registers, too.
		var items [][]impl.Cell
		for i := range n - 27 {
			items = append(items, varTerm(i), varTerm(i))
		}
		items = append(items, manyItems(520-len(items), atomTerm("a"))...)
		return rule(compTerm("p", wideOf(atomTerm("end"), items...)), truth)
	})
	wantLastRegister(t, "variables of choices", 1, func(n int) []impl.Cell {
		var goals [][]impl.Cell
		for i := range n {
			goals = append(goals, compTerm("$level", varTerm(i)), compTerm("$cut", varTerm(i)))
		}
		return rule(p, goals...)
	})
	wantLastRegister(t, "void and permanent variables beside", 2, func(n int) []impl.Cell {
		deep := compTerm("s", within(atomTerm("a"), "f", n+1))
		return rule(compTerm("p", varTerm(4)), compTerm("q", varTerm(1), varTerm(2)), compTerm("r", varTerm(1), varTerm(3)), deep, compTerm("s", varTerm(3)))
	})
	for _, void := range []string{"$level", "$mark", "$cut"} {
		for n := 253; n <= 256; n++ {
			clause := rule(compTerm("p", within(atomTerm("a"), "f", n+1)), compTerm(void, varTerm(0)))
			if ins, code := impl.CompileClause(clause); (code == impl.CodeOK) != (n <= 255) || code == impl.CodeOK && ins[len(ins)-2].R != 255 {
				t.Errorf("%s behind %d registers: %d", void, n, code)
			}
		}
	}
}

// No clause has as many instructions as MaxCode allows: the greatest ones are compiled whole.
func TestCompileGreatClauses(t *testing.T) {
	var goals [][]impl.Cell
	for range 90 {
		goals = append(goals, goalOf("q", 20))
	}
	ins, code := impl.CompileClause(rule(atomTerm("p"), goals...))
	if want := 90*21 + 2; code != impl.CodeOK || len(ins) != want {
		t.Errorf("%d, %d instructions, want %d", code, len(ins), want)
	}
	deep := rule(compTerm("p", within(atomTerm("a"), "f", impl.MaxCells-4)), atomTerm("true"))
	wantNoClause(t, "deep", deep, impl.CodeLimit)
	wantNoClause(t, "deep", rule(atomTerm("p"), compTerm("q", within(atomTerm("a"), "f", impl.MaxCells-4))), impl.CodeLimit)
}
