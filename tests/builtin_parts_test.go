package tests

import (
	"slices"
	"testing"

	"loop.example/s00095/impl"
)

func TestBuiltinFunctorOfTerms(t *testing.T) {
	wantEffects(t, map[string]string{
		"functor(f(a,b), X1, X2)": "X1 <- f & X2 <- 2", "functor(a, X1, X2)": "X1 <- a & X2 <- 0", "functor(7, X1, X2)": "X1 <- 7 & X2 <- 0", "functor(-7, X1, X2)": "X1 <- -7 & X2 <- 0",
		"functor([], X1, X2)": "X1 <- [] & X2 <- 0", "functor([a], X1, X2)": "X1 <- '.' & X2 <- 2", "functor({a}, X1, X2)": "X1 <- {} & X2 <- 1", "functor('', X1, X2)": "X1 <- '' & X2 <- 0",
		"functor(''(X1), X1, X1)": "X1 <- '' & X1 <- 1", "functor(f(X1), X1, X2)": "X1 <- f & X2 <- 1",
		// What the others are is not looked at.
		"functor(f(a), g, 3)": "g <- f & 3 <- 1", "functor(f(a), 1, a)": "1 <- f & a <- 1", "functor(a, h(X1), -1)": "h(X1) <- a & -1 <- 0", "functor(7, X1, foo)": "X1 <- 7 & foo <- 0", "functor(f(a), X1, 21)": "X1 <- f & 21 <- 1",
	})
	for _, n := range []int{1, 2, impl.MaxArity - 1, impl.MaxArity} {
		want := impl.Effect{Left: [][]impl.Cell{varTerm(1), varTerm(2)}, Right: [][]impl.Cell{atomTerm("f"), intTerm(n)}}
		wantEffectOf(t, want, impl.CodeOK, "functor", compTerm("f", argsOfCount(n)...), varTerm(1), varTerm(2))
	}
}

func TestBuiltinFunctorMakes(t *testing.T) {
	wantEffects(t, map[string]string{
		"functor(X1, f, 0)": "X1 <- f", "functor(X1, 7, 0)": "X1 <- 7", "functor(X1, -7, 0)": "X1 <- -7", "functor(X1, [], 0)": "X1 <- []", "functor(X1, '', 0)": "X1 <- ''",
		"functor(X1, f, 1)": "X1 <- f(X50)", "functor(X1, f, 2)": "X1 <- f(X50,X51)", "functor(X99, '.', 2)": "X99 <- [X50|X51]", "functor(X1, {}, 1)": "X1 <- {X50}", "functor(X1, '', 3)": "X1 <- ''(X50,X51,X52)",
	})
	for n := 1; n <= impl.MaxArity; n++ {
		wantPair(t, varTerm(1), compTerm("f", varsFrom(firstFresh, n)...), "functor", varTerm(1), atomTerm("f"), intTerm(n))
	}
}

func TestBuiltinFunctorFaults(t *testing.T) {
	wantSameEffects(t, "fault instantiation_error", "functor(X1, X2, X3)", "functor(X1, X2, 2)", "functor(X1, f, X2)", "functor(X1, X1, X1)", "functor(X1, 7, X2)", "functor(X1, g(a), X2)",
		// The name is missing, whatever the arity is.
		"functor(X1, X2, a)", "functor(X1, X2, -1)", "functor(X1, X2, 21)", "functor(X1, X2, 0)", "functor(X1, X2, f(a))")
	wantEffects(t, map[string]string{
		"functor(X1, f, a)": "fault type_error(integer,a)", "functor(X1, f, [])": "fault type_error(integer,[])", "functor(X1, f, g(X2))": "fault type_error(integer,g(X2))", "functor(X1, f, 1+1)": "fault type_error(integer,1+1)",
		"functor(X1, f, -1)": "fault domain_error(not_less_than_zero,-1)", "functor(X1, f, -1000000000000000)": "fault domain_error(not_less_than_zero,-1000000000000000)",
		"functor(X1, f, 21)": "fault " + badArity, "functor(X1, f, 1000000000000000)": "fault " + badArity,
		"functor(X1, g(a), 0)": "fault type_error(atomic,g(a))", "functor(X1, [X2], 0)": "fault type_error(atomic,[X2])",
		"functor(X1, g(a), 1)": "fault type_error(atomic,g(a))", "functor(X1, [a], 20)": "fault type_error(atomic,[a])",
		"functor(X1, 7, 1)": "fault type_error(callable,7)", "functor(X1, -7, 20)": "fault type_error(callable,-7)",
		// The arity is looked at first.
		"functor(X1, g(a), b)": "fault type_error(integer,b)", "functor(X1, 7, b)": "fault type_error(integer,b)", "functor(X1, g(a), -1)": "fault domain_error(not_less_than_zero,-1)", "functor(X1, 7, -2)": "fault domain_error(not_less_than_zero,-2)",
		"functor(X1, g(a), 21)": "fault " + badArity, "functor(X1, 7, 21)": "fault " + badArity,
	})
}

func TestBuiltinArg(t *testing.T) {
	wantEffects(t, map[string]string{
		"arg(1, f(a,b), X1)": "X1 <- a", "arg(2, f(a,b), X1)": "X1 <- b", "arg(1, f(g(X1)), X1)": "X1 <- g(X1)", "arg(2, f(a,X3,X2), c)": "c <- X3", "arg(1, [a,b], X1)": "X1 <- a", "arg(2, [a,b], X1)": "X1 <- [b]",
		"arg(1, {a}, 7)": "7 <- a", "arg(2, f(g(h(a),b),[c|X4],d), X1)": "X1 <- [c|X4]", "arg(3, f(g(h(a),b),[c|X4],d), X1)": "X1 <- d",
	})
	wantSameEffects(t, "fails", "arg(0, f(a), X1)", "arg(2, f(a), X1)", "arg(3, f(a,b), X1)", "arg(-1, f(a), X1)", "arg(1000000000000000, f(a), X1)", "arg(-1000000000000000, f(a), a)", "arg(21, f(a), X1)", "arg(4294967297, f(a), X1)")
	wide := argsOfCount(impl.MaxArity)
	for n := range impl.MaxArity + 2 {
		if n == 0 || n > impl.MaxArity {
			wantNothing(t, impl.CodeFail, "arg", intTerm(n), compTerm("f", wide...), varTerm(1))
			continue
		}
		wantPair(t, varTerm(1), intTerm(n-1), "arg", intTerm(n), compTerm("f", wide...), varTerm(1))
	}
}

func TestBuiltinArgFaults(t *testing.T) {
	wantEffects(t, map[string]string{
		"arg(X1, f(a), X2)": "fault instantiation_error", "arg(1, X1, X2)": "fault instantiation_error", "arg(X1, X1, X1)": "fault instantiation_error", "arg(0, X1, X2)": "fault instantiation_error",
		"arg(a, f(a), X2)": "fault type_error(integer,a)", "arg(f(X1), f(a), X2)": "fault type_error(integer,f(X1))", "arg(1+0, f(a), X2)": "fault type_error(integer,1+0)",
		"arg(1, a, X2)": "fault type_error(compound,a)", "arg(1, [], X2)": "fault type_error(compound,[])", "arg(1, 7, X2)": "fault type_error(compound,7)", "arg(0, a, X2)": "fault type_error(compound,a)", "arg(-1, 7, a)": "fault type_error(compound,7)",
		// N comes ahead of T.
		"arg(X1, a, X2)": "fault instantiation_error", "arg(X1, 7, X2)": "fault instantiation_error", "arg(a, X1, X2)": "fault type_error(integer,a)", "arg(a, b, X2)": "fault type_error(integer,a)", "arg(f(a), 7, X2)": "fault type_error(integer,f(a))",
	})
}

func TestBuiltinPartsOfTerms(t *testing.T) {
	wantEffects(t, map[string]string{
		"f(a,X3) =.. X1": "X1 <- [f,a,X3]", "f(X1) =.. X1": "X1 <- [f,X1]", "7 =.. X1": "X1 <- [7]", "-7 =.. X1": "X1 <- [-7]", "a =.. X1": "X1 <- [a]", "[] =.. X1": "X1 <- [[]]", "'' =.. X1": "X1 <- ['']",
		"[a,b] =.. X1": "X1 <- ['.',a,[b]]", "{a} =.. X1": "X1 <- [{},a]", "1+2*3 =.. X1": "X1 <- [+,1,2*3]", "f(g(a,b),c) =.. X1": "X1 <- [f,g(a,b),c]",
		// What L is is not looked at.
		"f(a) =.. b": "b <- [f,a]", "a =.. []": "[] <- [a]", "a =.. [X1|X2]": "[X1|X2] <- [a]", "f(a) =.. [7,a]": "[7,a] <- [f,a]", "7 =.. [g(a)|b]": "[g(a)|b] <- [7]",
	})
	wide := argsOfCount(impl.MaxArity)
	wantPair(t, varTerm(1), listTerm(append([][]impl.Cell{atomTerm("f")}, wide...)...), "=..", compTerm("f", wide...), varTerm(1))
}

func TestBuiltinPartsMake(t *testing.T) {
	wantEffects(t, map[string]string{
		"X1 =.. [f,a]": "X1 <- f(a)", "X1 =.. [7]": "X1 <- 7", "X1 =.. [-7]": "X1 <- -7", "X1 =.. [a]": "X1 <- a", "X1 =.. [[]]": "X1 <- []", "X1 =.. ['']": "X1 <- ''", "X1 =.. [f,X1]": "X1 <- f(X1)",
		"X1 =.. [f,X2,X3,X2]": "X1 <- f(X2,X3,X2)", "X1 =.. ['.',a,[]]": "X1 <- [a]", "X1 =.. [{},a]": "X1 <- {a}", "X1 =.. [[],a]": "X1 <- '[]'(a)", "X1 =.. ['',f(a)]": "X1 <- ''(f(a))", "X1 =.. [f,g(a,b),c]": "X1 <- f(g(a,b),c)",
	})
	for n := 1; n <= impl.MaxArity+1; n++ {
		args := argsOfCount(n)
		list := listTerm(append([][]impl.Cell{atomTerm("f")}, args...)...)
		if n > impl.MaxArity {
			wantBuiltinFault(t, parsed(badArity), "=..", varTerm(1), list)
			continue
		}
		wantPair(t, varTerm(1), compTerm("f", args...), "=..", varTerm(1), list)
	}
}

func TestBuiltinPartsFaults(t *testing.T) {
	wantSameEffects(t, "fault instantiation_error", "X1 =.. X2", "X1 =.. X1", "X1 =.. [f|X2]", "X1 =.. [f,a|X1]", "X1 =.. [7,a|X2]", "X1 =.. [g(a)|X2]", "X1 =.. [X2]", "X1 =.. [X2,a]", "X1 =.. [X2,X3]", "X1 =.. [X1|X1]")
	wantEffects(t, map[string]string{
		"X1 =.. a": "fault type_error(list,a)", "X1 =.. 7": "fault type_error(list,7)", "X1 =.. f(a)": "fault type_error(list,f(a))", "X1 =.. [a|b]": "fault type_error(list,[a|b])", "X1 =.. [X2|b]": "fault type_error(list,[X2|b])",
		"X1 =.. [X2,7,g(X3)|7]": "fault type_error(list,[X2,7,g(X3)|7])", "X1 =.. '.'(a)": "fault type_error(list,'.'(a))", "X1 =.. '.'(a,[],[])": "fault type_error(list,'.'(a,[],[]))", "X1 =.. {}": "fault type_error(list,{})",
		"X1 =.. []": "fault domain_error(non_empty_list,[])", "X1 =.. [f(a)]": "fault type_error(atomic,f(a))", "X1 =.. [[a]]": "fault type_error(atomic,[a])", "X1 =.. [g(X2)]": "fault type_error(atomic,g(X2))",
		"X1 =.. [7,a]": "fault type_error(atom,7)", "X1 =.. [f(a),b]": "fault type_error(atom,f(a))", "X1 =.. [[a],b]": "fault type_error(atom,[a])", "X1 =.. [-1,X2]": "fault type_error(atom,-1)",
	})
	// H is looked at ahead of the number of items behind it.
	tooMany := argsOfCount(impl.MaxArity + 1)
	for first, fault := range map[string]string{"X2": instantiation, "7": "type_error(atom,7)", "g(a)": "type_error(atom,g(a))", "f": badArity, "[]": badArity} {
		wantBuiltinFault(t, parsed(fault), "=..", varTerm(1), listTerm(append([][]impl.Cell{parsed(first)}, tooMany...)...))
	}
	wantBuiltinFault(t, parsed(instantiation), "=..", varTerm(1), listEnding(varTerm(2), tooMany...))
	wantBuiltinFault(t, parsed(badArity), "=..", varTerm(1), listTerm(append([][]impl.Cell{atomTerm("f")}, manyItems(900, varTerm(1))...)...))
}

func TestBuiltinCopyTerm(t *testing.T) {
	wantEffects(t, map[string]string{
		"copy_term(X3, X1)": "X1 <- X50", "copy_term(X1, X1)": "X1 <- X50", "copy_term(a, X1)": "X1 <- a", "copy_term(-3, a)": "a <- -3", "copy_term(f(X3,X1,X3), X2)": "X2 <- f(X50,X51,X50)",
		"copy_term(f(X9,g(X2,X9),X0), f(X2))": "f(X2) <- f(X50,g(X51,X50),X52)", "copy_term([a|X1], X1)": "X1 <- [a|X50]", "copy_term(f(a,b), b)": "b <- f(a,b)",
		// A variable that has the number of a new one already is another all the same.
		"copy_term(f(X51,X50), X52)": "X52 <- f(X50,X51)", "copy_term(f(X50), X50)": "X50 <- f(X50)",
	})
	many := wideOf(atomTerm("a"), varsFrom(300, 1000)...)
	wantPair(t, varTerm(1), wideOf(atomTerm("a"), varsFrom(firstFresh, 1000)...), "copy_term", many, varTerm(1))
	turned := varsFrom(300, 1000)
	slices.Reverse(turned)
	wantPair(t, varTerm(1), wideOf(atomTerm("a"), varsFrom(firstFresh, 1000)...), "copy_term", wideOf(atomTerm("a"), turned...), varTerm(1))
}

func TestBuiltinLengthOfLists(t *testing.T) {
	wantEffects(t, map[string]string{
		"length([], X1)": "X1 <- 0", "length([a], X1)": "X1 <- 1", "length([a,b], X1)": "X1 <- 2", "length([X1,X1,X2], X1)": "X1 <- 3", "length([[a,b],[c]], X1)": "X1 <- 2", "length(\"abc\", X1)": "X1 <- 3",
		// What N is is not looked at.
		"length([a,b], 2)": "2 <- 2", "length([a,b], 3)": "3 <- 2", "length([a,b], -1)": "-1 <- 2", "length([a,b], foo)": "foo <- 2", "length([], f(X1))": "f(X1) <- 0",
	})
	for _, n := range []int{499, 500, 501, 999} {
		wantPair(t, varTerm(1), intTerm(n), "length", listTerm(manyItems(n, varTerm(1))...), varTerm(1))
	}
}

func TestBuiltinLengthMakes(t *testing.T) {
	wantEffects(t, map[string]string{
		"length(X1, 0)": "X1 <- []", "length(X1, 1)": "X1 <- [X50]", "length(X1, 3)": "X1 <- [X50,X51,X52]", "length([a|X1], 3)": "X1 <- [X50,X51]", "length([a|X1], 1)": "X1 <- []", "length([a,b|X1], 2)": "X1 <- []",
		"length([X1|X1], 2)": "X1 <- [X50]", "length([X3,X2|X1], 4)": "X1 <- [X50,X51]", "length([a,b|X1], 1)": "fails", "length([a|X1], 0)": "fails", "length(X1, -1)": "fails", "length([a,b|X1], -1000000000000000)": "fails",
	})
	end := varTerm(7)
	for _, count := range []int{0, 1, 2, 500, 999} {
		list := listEnding(end, manyItems(count, atomTerm("a"))...)
		for _, missing := range []int{-2, -1, 0, 1, impl.MaxLength - 1, impl.MaxLength, impl.MaxLength + 1, impl.MaxLength + 2, impl.MaxInt - 1000} {
			n := intTerm(count + missing)
			switch {
			case missing < 0:
				wantNothing(t, impl.CodeFail, "length", list, n)
			case missing > impl.MaxLength:
				wantBuiltinFault(t, parsed("resource_error(length)"), "length", list, n)
			default:
				wantPair(t, end, listTerm(varsFrom(firstFresh, missing)...), "length", list, n)
			}
		}
	}
}

func TestBuiltinLengthFaults(t *testing.T) {
	wantEffects(t, map[string]string{
		"length(X1, X2)": "fault instantiation_error", "length(X1, X1)": "fault instantiation_error", "length([a|X1], X2)": "fault instantiation_error", "length([a|X1], X1)": "fault instantiation_error",
		"length(X1, a)": "fault type_error(integer,a)", "length([a|X1], f(X2))": "fault type_error(integer,f(X2))", "length(X1, 1+1)": "fault type_error(integer,1+1)", "length(X1, [])": "fault type_error(integer,[])",
		"length(a, X2)": "fault type_error(list,a)", "length(7, 7)": "fault type_error(list,7)", "length([a|b], X2)": "fault type_error(list,[a|b])", "length(f(X1), 1)": "fault type_error(list,f(X1))", "length([X1|7], X1)": "fault type_error(list,[X1|7])",
		"length('.'(a), 1)": "fault type_error(list,'.'(a))", "length({}, 0)": "fault type_error(list,{})",
		// L comes ahead of N.
		"length(a, b)": "fault type_error(list,a)", "length([a|b], c)": "fault type_error(list,[a|b])", "length(a, -1)": "fault type_error(list,a)", "length(7, 1000000)": "fault type_error(list,7)",
	})
}

// The numbers of new variables begin at fresh, wherever this is, and hang on nothing else.
func TestBuiltinFreshNumbers(t *testing.T) {
	x := varTerm(3)
	for _, fresh := range []int{0, 1, 2, 3, 77, 999999 - 2, impl.MaxVar - 2} {
		three := varsFrom(fresh, 3)
		for _, c := range []struct {
			name string
			args [][]impl.Cell
			want []impl.Cell
		}{
			{"functor", [][]impl.Cell{x, atomTerm("f"), intTerm(3)}, compTerm("f", three...)},
			{"length", [][]impl.Cell{x, intTerm(3)}, listTerm(three...)},
			{"copy_term", [][]impl.Cell{compTerm("f", varTerm(5), varTerm(impl.MaxVar), varTerm(0)), x}, compTerm("f", three...)},
		} {
			e, code := impl.Builtin(impl.DefaultOps(), []byte(c.name), c.args, fresh)
			want := impl.Effect{Left: [][]impl.Cell{x}, Right: [][]impl.Cell{c.want}}
			if got := showEffect(e, code); got != showEffect(want, impl.CodeOK) {
				t.Errorf("%s from %d: %s", c.name, fresh, got)
			}
		}
	}
}

// New variables go on beyond MaxVar: their numbers are no limit.
func TestBuiltinFreshBeyond(t *testing.T) {
	x := varTerm(3)
	for made := 1; made <= impl.MaxArity; made++ {
		for fresh := impl.MaxVar - 5; fresh <= impl.MaxVar; fresh++ {
			wantFresh(t, fresh, x, compTerm("f", varsFrom(fresh, made)...), "functor", x, atomTerm("f"), intTerm(made))
			wantFresh(t, fresh, x, listTerm(varsFrom(fresh, made)...), "length", x, intTerm(made))
			wantFresh(t, fresh, x, listTerm(varsFrom(fresh, made)...), "copy_term", listTerm(varsFrom(0, made)...), x)
		}
	}
	most := varsFrom(impl.MaxVar, impl.MaxLength)
	wantFresh(t, impl.MaxVar, x, listTerm(most...), "length", x, intTerm(impl.MaxLength))
	wantFresh(t, impl.MaxVar, x, compTerm("f", varTerm(impl.MaxVar), varTerm(impl.MaxVar+1), varTerm(impl.MaxVar)), "copy_term", compTerm("f", varTerm(impl.MaxVar), varTerm(0), varTerm(impl.MaxVar)), x)
	// A copy may have as many variables as a term has cells.
	wide := wideOf(varTerm(0), varsFrom(0, 900)...)
	wantFresh(t, impl.MaxVar, x, shifted(impl.Renumber(wide), impl.MaxVar), "copy_term", wide, x)
	if e, code := impl.Builtin(impl.DefaultOps(), []byte("=.."), [][]impl.Cell{chain(impl.MaxCells), x}, impl.MaxVar); code != impl.CodeLimit {
		t.Errorf("too many cells: %.200s", showEffect(e, code))
	}
}

// wantFresh asks that the effect is one pair, with new variables from fresh on.
func wantFresh(t *testing.T, fresh int, left []impl.Cell, right []impl.Cell, name string, args ...[]impl.Cell) {
	t.Helper()
	e, code := impl.Builtin(impl.DefaultOps(), []byte(name), args, fresh)
	want := impl.Effect{Left: [][]impl.Cell{left}, Right: [][]impl.Cell{right}}
	if got := showEffect(e, code); got != showEffect(want, impl.CodeOK) {
		t.Errorf("%.200s from %d: %.400s", showCall(name, args...), fresh, got)
	}
}
