package tests

import (
	"bytes"
	"slices"
	"testing"

	"loop.example/s00095/impl"
)

type memoryCall struct {
	name string
	args [][]impl.Cell
}

func (c memoryCall) show() string {
	return showCall(c.name, c.args...)
}

// memoryCalls are goals with effects of each sort; some have one and the same text in many cells.
func memoryCalls() []memoryCall {
	var calls []memoryCall
	for _, src := range []string{
		"true", "fail", "f(X1,name) = f(name,X2)", "name = name", `a \= b`, `f(X1) \= f(name)`, "f(X1) == f(X1)", "f(X2) @< f(X1)", "compare(X1, name, other)", "var(X1)", "ground(f(name))", "is_list([name])",
		"X1 is 1+2", "f(name) is 7", "X1 is name", "X1 is name(2)", "1 < 2", "name =:= other", "functor(name(a,b), X1, f(other))", "functor(X1, name, 3)", "functor(X1, name, 0)", "functor(X1, name(a), 0)", "functor(X1, name, other)", "functor(7, name, other)",
		"arg(1, f(name(a),b), g(name))", "arg(name, f(a), X1)", "arg(2, f(a), X1)", "name(a,other) =.. [X1|X2]", "X1 =.. [name,other,f(X1)]", "X1 =.. [name]", "X1 =.. name", "X1 =.. []", "copy_term(f(X1,name,X2,name), g(name))",
		"length([name,other], X1)", "length([name|X1], 3)", "length(name, 3)", "length(X1, 501)", "atom_length(name, other)", "atom_codes(name, other)", "atom_codes(X1, \"name\")", "atom_chars(name, X1)", "atom_chars(X1, [n,a,m,e])", "atom_chars(X1, [name])",
		"char_code(n, other)", "char_code(X1, 110)", "char_code(name, X1)", "number_codes(f(name), \"12\")", "number_codes(12, f(name))", "number_codes(name, X1)", "msort([name,f(name),X2,name,X1], other)", "sort([name,f(name),X2,name,X1], X1)", "sort([b|name], X1)",
		"write(f(name,'Other'))", "writeq(f(name,'Other',X3))", "print('Other')", "nl", "tab(3)", "tab(name)", "tab(-1)",
	} {
		goal := parsed(src)
		calls = append(calls, memoryCall{name: string(goal[0].Text), args: argTerms(goal)})
	}
	shared := []byte("shared")
	one := []impl.Cell{{Kind: impl.TermComp, N: 2, Text: shared}, {Kind: impl.TermAtom, Text: shared}, {Kind: impl.TermAtom, Text: shared}}
	for name, arity := range builtinArities {
		calls = append(calls, memoryCall{name: name, args: slices.Repeat([][]impl.Cell{one}, arity)})
	}
	bad := []impl.Cell{{Kind: 9, Text: shared}}
	return append(calls, memoryCall{name: "none", args: ones(1)}, memoryCall{name: "var", args: [][]impl.Cell{bad}}, memoryCall{name: "="})
}

// effectLists are all lists of cells of an effect.
func effectLists(e impl.Effect) [][]impl.Cell {
	var all [][]impl.Cell
	all = append(all, e.Left...)
	all = append(all, e.Right...)
	return append(all, e.Error)
}

func overwriteEffect(e impl.Effect) {
	for _, cells := range effectLists(e) {
		overwriteCells(cells)
	}
	overwrite(e.Out)
	for _, lists := range [][][]impl.Cell{e.Left, e.Right} {
		clear(lists[:cap(lists)])
	}
}

func TestBuiltinArgumentsStay(t *testing.T) {
	for _, c := range memoryCalls() {
		ops, opsStay := lendOps(impl.DefaultOps())
		lentName, nameStays := roomy(c.name)
		checks := []func() bool{opsStay, nameStays}
		spare := atomTerm("spare")
		lent := [][]impl.Cell{spare}
		for _, arg := range c.args {
			cells, stays := lend(arg)
			lent, checks = append(lent, cells), append(checks, stays)
		}
		lent = append(lent, spare, spare)
		before := showLists(lent)
		checks = append(checks, func() bool { return showLists(lent) == before })
		stay := func() bool {
			for _, check := range checks {
				if !check() {
					return false
				}
			}
			return true
		}
		impl.IsBuiltin(lentName, len(c.args))
		e, _ := impl.Builtin(ops, lentName, lent[1:len(c.args)+1], firstFresh)
		if !stay() {
			t.Errorf("%s: written into", c.show())
		}
		overwriteEffect(e)
		if !stay() {
			t.Errorf("%s: an answer shares its memory", c.show())
		}
	}
}

func TestBuiltinArgumentsAreNotKept(t *testing.T) {
	for _, c := range memoryCalls() {
		ops, lentName, lent := impl.DefaultOps(), []byte(c.name), copyLists(c.args)
		e, code := impl.Builtin(ops, lentName, lent, firstFresh)
		before := showEffect(e, code)
		for _, arg := range lent {
			overwriteCells(arg)
		}
		clear(lent)
		overwriteOps(ops)
		overwrite(lentName)
		if showEffect(e, code) != before {
			t.Errorf("%s: an answer changes with it", c.show())
		}
		overwriteEffect(e)
		if again := showEffect(callBuiltin(c.name, c.args...)); again != before {
			t.Errorf("%s: %s the second time, %s the first", c.show(), again, before)
		}
	}
}

func TestBuiltinAnswersShareNothing(t *testing.T) {
	for _, c := range memoryCalls() {
		e, code := callBuiltin(c.name, c.args...)
		before := showLists(effectLists(e))
		overwrite(e.Out)
		if showLists(effectLists(e)) != before {
			t.Errorf("%s: what is written is shared", c.show())
		}
		out := bytes.Clone(e.Out)
		wantUnshared(t, c.show(), effectLists(e))
		if !bytes.Equal(out, e.Out) {
			t.Errorf("%s: terms share what is written", c.show())
		}
		e, _ = callBuiltin(c.name, c.args...)
		right := showLists(e.Right)
		clear(e.Left[:cap(e.Left)])
		if showLists(e.Right) != right || code != impl.CodeOK && len(e.Left)+len(e.Right) > 0 {
			t.Errorf("%s: the two sides are shared", c.show())
		}
	}
}
