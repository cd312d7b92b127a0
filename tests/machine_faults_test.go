package tests

import "testing"

func TestMachineFaultsOfCall(t *testing.T) {
	wantRuns(t, []runs{
		{"", "X", "ball error(instantiation_error,call/1)"},
		{"", "call(X)", "ball error(instantiation_error,call/1)"},
		{"", "call(X, 1)", "ball error(instantiation_error,call/2)"},
		{"", "call(X, 1, 2, 3, 4, 5, 6, 7)", "ball error(instantiation_error,call/8)"},
		{"", "call(call(X), 1)", "ball error(instantiation_error,call/2)"},
		{"", "call(call, X)", "ball error(instantiation_error,call/1)"},
		{"", "7", "ball error(type_error(callable,7),call/1)"},
		{"", "call(7, a)", "ball error(type_error(callable,7),call/2)"},
		{"", "call((true, 7))", "ball error(type_error(callable,(true,7)),call/1)"},
		{"", "call((write(a), X, 7))", "ball error(type_error(callable,(write(a),_0,7)),call/1)"},
		{"", "(true ; 7)", "ball error(type_error(callable,(true;7)),call/1)"},
		{"", "call(',', true, 7)", "ball error(type_error(callable,(true,7)),call/3)"},
		{"", "call(','(true), 7)", "ball error(type_error(callable,(true,7)),call/2)"},
		{"", "once(7)", "ball error(type_error(callable,once(7)),call/1)"},
		{"", "\\+ 7", "ball error(type_error(callable,\\+7),call/1)"},
		{"", "forall(true, 7)", "ball error(type_error(callable,forall(true,7)),call/1)"},
		{"", "'$x'", "ball error(type_error(callable,'$x'),call/1)"},
		{"", "'$level'(X)", "ball error(type_error(callable,'$level'(_0)),call/1)"},
		{"", "call('$cut', 0)", "ball error(type_error(callable,'$cut'(0)),call/2)"},
		{"", "(true, '$x'(1))", "ball error(type_error(callable,(true,'$x'(1))),call/1)"},
		{"a :- (b ; c). b. c.", "'$1'", "ball error(type_error(callable,'$1'),call/1)"},
		{"p(X) :- X.", "p(7)", "ball error(type_error(callable,7),call/1)"},
		{"p(X) :- X.", "p(Y)", "ball error(instantiation_error,call/1)"},
		{"p(X) :- call(X, 1).", "p(f(2))", "ball error(existence_error(procedure,f/2),f/2)"},
	})
}

func TestMachineFaultsOfMissing(t *testing.T) {
	wantRuns(t, []runs{
		{"", "a", "ball error(existence_error(procedure,a/0),a/0)"},
		{"", "a(1, X)", "ball error(existence_error(procedure,a/2),a/2)"},
		{"a(1).", "a", "ball error(existence_error(procedure,a/0),a/0)"},
		{"p :- a(1), write(x).", "p", "ball error(existence_error(procedure,a/1),a/1)"},
		{"", "[]", "ball error(existence_error(procedure,[]/0),[]/0)"},
		{"", "[a]", "ball error(existence_error(procedure,'.'/2),'.'/2)"},
		{"", "{a}", "ball error(existence_error(procedure,{}/1),{}/1)"},
		{"", "(a :- b)", "ball error(existence_error(procedure,(:-)/2),(:-)/2)"},
		{"", "(a --> b)", "ball error(existence_error(procedure,(-->)/2),(-->)/2)"},
		{"", "dynamic(a/1)", "ball error(existence_error(procedure,(dynamic)/1),(dynamic)/1)"},
		{"", "findall(a, b)", "ball error(existence_error(procedure,findall/2),findall/2)"},
		{"", "(!)", "yes | no"},
		{"", "','(a)", "ball error(existence_error(procedure,(',')/1),(',')/1)"},
		{"", "!(a)", "ball error(existence_error(procedure,!/1),!/1)"},
		{"", "once(a, b)", "ball error(existence_error(procedure,once/2),once/2)"},
	})
}

func TestMachineFaultsOfBuiltins(t *testing.T) {
	wantRuns(t, []runs{
		{"", "X is a", "ball error(type_error(evaluable,a/0),(is)/2)"},
		{"p(X) :- Y is X, write(Y).", "p(f)", "ball error(type_error(evaluable,f/0),(is)/2)"},
		{"", "call(is, X, Y)", "ball error(instantiation_error,(is)/2)"},
		{"", "atom_length(X, Y)", "ball error(instantiation_error,atom_length/2)"},
		{"", "atom_length(f(X, Y), Z)", "ball error(type_error(atomic,f(_0,_1)),atom_length/2)"},
		{"", "catch(atom_length(f(X), Y), error(type_error(A, B), C), true)", "_0 _1 atomic f(_2) atom_length/2 | no"},
		{"", "functor(X, foo, -1)", "ball error(domain_error(not_less_than_zero,-1),functor/3)"},
		{"", "write(a), tab(a)", "ball error(type_error(evaluable,a/0),tab/1) | a"},
	})
}

func TestMachineBetween(t *testing.T) {
	wantRuns(t, []runs{
		{"", "between(1, 3, X)", "1; 2; 3 | no"},
		{"", "between(-2, 0, X)", "-2; -1; 0 | no"},
		{"", "between(5, 5, X)", "5 | no"},
		{"", "between(5, 4, X)", "no"},
		{"", "between(1, 3, 0)", "no"},
		{"", "between(1, 3, 1)", "yes | no"},
		{"", "between(1, 3, 3)", "yes | no"},
		{"", "between(1, 3, 4)", "no"},
		{"", "between(3, 1, 2)", "no"},
		{"", "X = 2, between(1, 3, X)", "2 | no"},
		{"", "X = Y, between(1, 2, X)", "1 1; 2 2 | no"},
		{"", "between(1, 2, X), between(X, 2, Y)", "1 1; 1 2; 2 2 | no"},
		{"", "between(1, 1000000000000000, X), X > 2, !", "3 | no"},
		{"", "between(999999999999999, 1000000000000000, X)", "999999999999999; 1000000000000000 | no"},
		{"", "between(-1000000000000000, -999999999999999, X)", "-1000000000000000; -999999999999999 | no"},
		{"", "between(X, 3, Y)", "ball error(instantiation_error,between/3)"},
		{"", "between(1, X, Y)", "ball error(instantiation_error,between/3)"},
		{"", "between(a, X, Y)", "ball error(type_error(integer,a),between/3)"},
		{"", "between(X, a, b)", "ball error(instantiation_error,between/3)"},
		{"", "between(a, b, c)", "ball error(type_error(integer,a),between/3)"},
		{"", "between(1, b, c)", "ball error(type_error(integer,b),between/3)"},
		{"", "between(1, X, c)", "ball error(instantiation_error,between/3)"},
		{"", "between(1, 2, c)", "ball error(type_error(integer,c),between/3)"},
		{"", "between(2, 1, c)", "ball error(type_error(integer,c),between/3)"},
		{"", "between(1, 2, f(X, Y))", "ball error(type_error(integer,f(_0,_1)),between/3)"},
		{"", "between(1 + 1, 3, X)", "ball error(type_error(integer,1+1),between/3)"},
		{"", "call(between(1), 2, X)", "1; 2 | no"},
		{"p(X, Y) :- between(1, X, Y), q. q.", "p(2, Y)", "1; 2 | no"},
	})
}

func TestMachineFaultsOfAssert(t *testing.T) {
	const facts = ":- dynamic d/1. p(1). e. "
	for _, name := range []string{"asserta", "assertz"} {
		wantRuns(t, []runs{
			{facts, name + "(X)", "ball error(instantiation_error," + name + "/1)"},
			{facts, name + "((X :- a))", "ball error(instantiation_error," + name + "/1)"},
			{facts, name + "((X :- 1))", "ball error(instantiation_error," + name + "/1)"},
			{facts, name + "(3)", "ball error(type_error(callable,3)," + name + "/1)"},
			{facts, name + "((3 :- 4))", "ball error(type_error(callable,3)," + name + "/1)"},
			{facts, name + "((d(1) :- 4))", "ball error(type_error(callable,4)," + name + "/1)"},
			{facts, name + "((d(X) :- a, X, 4))", "ball error(type_error(callable,(a,_0,4))," + name + "/1)"},
			{facts, name + "((d(1) :- '$a'))", "ball error(type_error(callable,'$a')," + name + "/1)"},
			{facts, name + "((p(1) :- 4))", "ball error(type_error(callable,4)," + name + "/1)"},
			{facts, name + "((atom(1) :- 4))", "ball error(type_error(callable,4)," + name + "/1)"},
			{facts, name + "(p(2))", "ball error(permission_error(modify,static_procedure,p/1)," + name + "/1)"},
			{facts, name + "((p(2) :- X))", "ball error(permission_error(modify,static_procedure,p/1)," + name + "/1)"},
			{facts, name + "(e)", "ball error(permission_error(modify,static_procedure,e/0)," + name + "/1)"},
			{facts, name + "(atom(2))", "ball error(permission_error(modify,static_procedure,atom/1)," + name + "/1)"},
			{facts, name + "((a , b))", "ball error(permission_error(modify,static_procedure,(',')/2)," + name + "/1)"},
			{facts, name + "(!)", "ball error(permission_error(modify,static_procedure,!/0)," + name + "/1)"},
			{facts, name + "(call(a))", "ball error(permission_error(modify,static_procedure,call/1)," + name + "/1)"},
			{facts, name + "((a --> b))", "ball error(permission_error(modify,static_procedure,(-->)/2)," + name + "/1)"},
			{facts, name + "((:- a))", "ball error(permission_error(modify,static_procedure,(:-)/1)," + name + "/1)"},
			{facts, name + "(((a :- b) :- c))", "ball error(permission_error(modify,static_procedure,(:-)/2)," + name + "/1)"},
			{facts, name + "('$a'(1))", "ball error(permission_error(modify,static_procedure,'$a'/1)," + name + "/1)"},
			{facts, name + "([])", "ball error(permission_error(modify,static_procedure,[]/0)," + name + "/1)"},
		})
		wantRuns(t, []runs{
			{facts, name + "(p), p", "yes | no"},
			{facts, name + "(p(1, 2)), p(X, Y)", "1 2 | no"},
			{facts, name + "(d(2)), d(X)", "2 | no"},
			{facts, name + "([a]), [X]", "a | no"},
			{facts, "catch(" + name + "(p(2)), error(permission_error(A, B, C), D), true)", "modify static_procedure p/1 " + name + "/1 | no"},
		})
	}
}

// goalsOf is a body of so many goals that are the same.
func goalsOf(goal string, n int) string {
	return manyOf(n, ", ", func(int) string { return goal })
}

// The errors of a head or a body come ahead of the limits, which are those of a clause that is put.
func TestMachineFaultsOfAssertAheadOfLimits(t *testing.T) {
	const facts = ":- dynamic d/1. p(1). e. two :- a ; b. "
	static := map[string]string{
		"p(1)": "p/1", "p(X)": "p/1", "e": "e/0", "two": "two/0", "true": "true/0", "call(1)": "call/1", "atom(a)": "atom/1", "halt": "halt/0",
		"!": "!/0", "(a , b)": "(',')/2", "once(a)": "once/1", "(a --> b)": "(-->)/2", "(a :- b)": "(:-)/2", "'$1'": "'$1'/0", "[]": "[]/0",
	}
	// The normal body has 3 n - 1 cells: 666 make a clause of MaxCells with z(1), 667 have MaxCells themselves.
	for n, put := range map[int]string{1: "_0 | no", 666: "_0 | no", 667: "limit", 668: "limit", 700: "limit", 900: "limit"} {
		for _, name := range []string{"asserta", "assertz"} {
			asserted := func(head string) string { return name + "((" + head + " :- " + goalsOf("X", n) + "))" }
			ball := func(fault string) string { return "ball error(" + fault + "," + name + "/1)" }
			for head, indicator := range static {
				wantRuns(t, []runs{{facts, asserted(head), ball("permission_error(modify,static_procedure," + indicator + ")")}})
			}
			wantRuns(t, []runs{
				{facts, asserted("z(1)"), put},
				{facts, asserted("d(1)"), put},
				{facts, asserted("Y"), ball("instantiation_error")},
				{facts, asserted("3"), ball("type_error(callable,3)")},
			})
		}
	}
}

// Whatever makes the normal body too great; an error of the body comes ahead of one that the head may not be changed.
func TestMachineFaultsOfAssertGreatBodies(t *testing.T) {
	const facts = ":- dynamic d/1. p(1). on(T) :- write(a), assertz(T). "
	permission, kind := ", error(permission_error(_, _, P), _), (write(P), halt))", ", error(type_error(K, _), _), (write(K), halt))"
	for _, body := range []string{goalsOf("X", 700), goalsOf("once(X)", 450), goalsOf("forall(a, b)", 400), goalsOf("\\+ (X -> b)", 360)} {
		wantRuns(t, []runs{
			{facts, "assertz((p(1) :- " + body + "))", "ball error(permission_error(modify,static_procedure,p/1),assertz/1)"},
			{facts, "assertz((d(1) :- " + body + "))", "limit"},
			{facts, "assertz((z(1) :- " + body + "))", "limit"},
			{facts, "on((p(1) :- " + body + "))", "ball error(permission_error(modify,static_procedure,p/1),assertz/1) | a"},
			{facts, "on((z(1) :- " + body + "))", "limit | a"},
			{facts, "catch(assertz((p(1) :- " + body + "))" + permission, "halt | p/1"},
			{facts, "catch(findall(x, assertz((p(1) :- " + body + ")), _)" + permission, "halt | p/1"},
			{facts, "catch(assertz((d(1) :- " + body + "))" + permission, "limit"},
			{facts, "catch(assertz((p(1) :- " + body + ", 7))" + kind, "halt | callable"},
			{facts, "catch(assertz((d(1) :- " + body + ", 7))" + kind, "halt | callable"},
			{facts, "retract((p(1) :- " + body + "))", "ball error(permission_error(modify,static_procedure,p/1),retract/1)"},
			{facts, "retract((d(1) :- " + body + "))", "no"},
		})
	}
}

func TestMachineFaultsOfRetract(t *testing.T) {
	const facts = ":- dynamic d/1. d(1). p(1). p(2) :- q ; r. "
	wantRuns(t, []runs{
		{facts, "retract(X)", "ball error(instantiation_error,retract/1)"},
		{facts, "retract((X :- a))", "ball error(instantiation_error,retract/1)"},
		{facts, "retract(3)", "ball error(type_error(callable,3),retract/1)"},
		{facts, "retract((3 :- X))", "ball error(type_error(callable,3),retract/1)"},
		{facts, "retract(p(1))", "ball error(permission_error(modify,static_procedure,p/1),retract/1)"},
		{facts, "retract((p(1) :- 3))", "ball error(permission_error(modify,static_procedure,p/1),retract/1)"},
		{facts, "retract(write(1))", "ball error(permission_error(modify,static_procedure,write/1),retract/1)"},
		{facts, "retract(('$1'(X, Y) :- Z))", "ball error(permission_error(modify,static_procedure,'$1'/2),retract/1)"},
		{facts, "retract((a , b))", "ball error(permission_error(modify,static_procedure,(',')/2),retract/1)"},
		{facts, "retract((d(1) :- 3))", "no"},
		{facts, "retract((d(1) :- '$a'))", "no"},
		{facts, "retract(none(1))", "no"},
		{facts, "retract((none(1) :- 3))", "no"},
		{facts, "retract(d)", "no"},
	})
}

func TestMachinePhrase(t *testing.T) {
	const grammar = "s --> [a], s. s --> []. n(X) --> [X], {integer(X)}. w --> \"ab\". list([X|Y]) --> n(X), list(Y). list([]) --> []. two --> n(_), !, n(_). two --> []. look, [X] --> [X]. "
	wantRuns(t, []runs{
		{grammar, "phrase(s, [a, a])", "yes | no"},
		{grammar, "phrase(s, [a, b])", "no"},
		{grammar, "phrase(s, [a, b], X)", "[b]; [a,b] | no"},
		{grammar, "phrase(w, X)", "[97,98] | no"},
		{grammar, "phrase(list(X), [1, 2, 3])", "[1,2,3] | no"},
		{grammar, "phrase(list(X), [1, b], Y)", "[1] [b]; [] [1,b] | no"},
		{grammar, "phrase(two, [1, 2, 3], X)", "[3] | no"},
		{grammar, "phrase(two, [a], X)", "[a] | no"},
		{grammar, "phrase(look, [1, 2], X)", "[1,2] | no"},
		{grammar, "phrase([], X)", "[] | no"},
		{grammar, "phrase([], X, Y)", "_0 _0 | no"},
		{grammar, "phrase([a, B], X)", "_0 [a,_0] | no"},
		{grammar, "phrase([a, B], X, Y)", "_0 [a,_0|_1] _1 | no"},
		{grammar, "phrase([a], [b])", "no"},
		{grammar, "phrase([a], 7)", "no"},
		{grammar, "phrase(([a], [b]), X)", "[a,b] | no"},
		{grammar, "phrase(([a] ; [b]), X)", "[a]; [b] | no"},
		{grammar, "phrase(([a] -> [b] ; [c]), [a, b])", "yes | no"},
		{grammar, "phrase(([a] -> [b] ; [c]), [c])", "yes | no"},
		{grammar, "phrase((\\+ [a], [X]), [b])", "b | no"},
		{grammar, "phrase(\\+ [a], [a], X)", "no"},
		{grammar, "phrase(!, [a], X)", "[a] | no"},
		{grammar, "phrase((([a] ; []), !), [a], X)", "[] | no"},
		{grammar, "phrase({write(x)}, [a], X)", "[a] | no | x"},
		{grammar, "phrase({X}, [a], Y)", "ball error(instantiation_error,call/1)"},
		{grammar, "G = write(x), phrase({G}, [a], Y)", "write(x) [a] | no | x"},
		{grammar, "phrase(call(append), X, Y)", "ball error(existence_error(procedure,append/2),append/2)"},
		{grammar, "phrase(call(=), X, Y)", "_0 _0 | no"},
		{grammar, "phrase((X, [a]), [a])", "ball error(instantiation_error,phrase/3)"},
		{grammar, "X = s, phrase((X, [b]), [a, b])", "s | no"},
		{grammar, "phrase(phrase(s), [a])", "yes | no"},
		{grammar, "phrase(phrase, s, [a])", "yes | no"},
		{grammar, "phrase(n(X), [7], Y)", "7 [] | no"},
		{grammar, "call(phrase, s, [a])", "yes | no"},
	})
}

func TestMachineFaultsOfPhrase(t *testing.T) {
	wantRuns(t, []runs{
		{"", "phrase(X, Y)", "ball error(instantiation_error,phrase/3)"},
		{"", "phrase(X, Y, Z)", "ball error(instantiation_error,phrase/3)"},
		{"", "phrase(7, Y)", "ball error(type_error(callable,7),phrase/3)"},
		{"", "phrase(7, Y, Z)", "ball error(type_error(callable,7),phrase/3)"},
		{"", "phrase((a, 7), Y)", "ball error(type_error(callable,(a,7)),phrase/3)"},
		{"", "phrase([a|X], Y)", "ball error(type_error(callable,[a|_0]),phrase/3)"},
		{"", "phrase(([a], [b|c]), Y)", "ball error(type_error(callable,([a],[b|c])),phrase/3)"},
		{"", "phrase({7}, [a], X)", "ball error(type_error(callable,(7,[a]=_0)),call/1)"},
		{"", "phrase('$a', [a], X)", "ball error(type_error(callable,'$a'([a],_0)),call/1)"},
		{"", "phrase(none, [a], X)", "ball error(existence_error(procedure,none/2),none/2)"},
		{"", "phrase(none(1), [a])", "ball error(existence_error(procedure,none/3),none/3)"},
		{"", "catch(phrase(none, [a]), error(E, _), true)", "existence_error(procedure,none/2) none/2 | no"},
		{"", "phrase(f(" + manyOf(18, ", ", numbered("%d")) + "), X)", "ball error(existence_error(procedure,f/20),f/20)"},
		{"", "phrase(f(" + manyOf(19, ", ", numbered("%d")) + "), X)", "limit"},
		{"", "phrase((7, f(" + manyOf(19, ", ", numbered("%d")) + ")), X)", "ball error(type_error(callable,(7,f(0,1,2,3,4,5,6,7,8,9,10,11,12,13,14,15,16,17,18))),phrase/3)"},
		{"", "phrase((f(" + manyOf(19, ", ", numbered("%d")) + "), 7), X)", "limit"},
	})
}
