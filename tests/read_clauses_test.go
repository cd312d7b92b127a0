package tests

import (
	"fmt"
	"strings"
	"testing"

	"loop.example/s00095/impl"
)

func TestReadNoClause(t *testing.T) {
	for _, ops := range goodTables() {
		for _, src := range []string{"", " ", "\n\t\r ", "% only a comment", "/* a. */ % b.\n"} {
			wantClauses(t, ops, src, nil, ops)
		}
	}
}

func TestReadClausesAtTheirPlaces(t *testing.T) {
	ops := impl.DefaultOps()
	wantClauses(t, ops, "a.", []found{{"a", "a", nil}}, ops)
	wantClauses(t, ops, "  \n% c\na .", []found{{"a", "a", nil}}, ops)
	wantClauses(t, ops, "a. a.\n% x.\n  f(b) .% c\n(d). -1. - 1. [] . \"e\". {}. :- g. 'h'. X.", []found{
		{"a.", "a", nil}, {"a.", "a", nil}, {"f(b)", "f/1 b", nil}, {"(d)", "d", nil}, {"-1", "-1", nil}, {"- 1", "-/1 1", nil}, {"[]", "[]", nil},
		{"\"e\"", "./2 101 []", nil}, {"{}", "{}", nil}, {":- g", ":-/1 g", nil}, {"'h'", "h", nil}, {"X", "X0", []string{"X"}},
	}, ops)
	wantClauses(t, ops, "app([],L,L).\napp([X|L],M,[X|N]) :-\n\tapp(L,M,N).\n", []found{
		{"app(", "app/3 [] X0 X0", []string{"L"}},
		{"app(", ":-/2 app/3 ./2 X0 X1 X2 ./2 X0 X3 app/3 X1 X2 X3", []string{"X", "L", "M", "N"}},
	}, ops)
}

func TestReadClausesHaveTheirOwnVariables(t *testing.T) {
	ops := impl.DefaultOps()
	wantClauses(t, ops, "p(X,_). q(Y,X,_). r. s(_,X). :- op(0,xfx,Y)=Y. X.", []found{
		{"p", "p/2 X0 X1", []string{"X", ""}}, {"q", "q/3 X0 X1 X2", []string{"Y", "X", ""}}, {"r", "r", nil}, {"s", "s/2 X0 X1", []string{"", "X"}},
		{":-", ":-/1 =/2 op/3 0 xfx X0 X0", []string{"Y"}}, {"X", "X0", []string{"X"}},
	}, ops)
}

// What looks like an operator's definition and is none is a clause.
func TestReadClausesBesideOp(t *testing.T) {
	ops := impl.DefaultOps()
	wantClauses(t, ops, "op(700,xfx,a). :- op(700,xfx). :- op(700,xfx,a,b). :- op. ?- op(700,xfx,a). a:-op(700,xfx,a). :- op(1,2,3),b. :- 'Op'(1,fy,a). :-(b,op(1,fy,a)).",
		[]found{
			{"op", "op/3 700 xfx a", nil}, {":- op", ":-/1 op/2 700 xfx", nil}, {":- op", ":-/1 op/4 700 xfx a b", nil}, {":- op", ":-/1 op", nil},
			{"?-", "?-/1 op/3 700 xfx a", nil}, {"a:-", ":-/2 a op/3 700 xfx a", nil}, {":- op", ":-/1 ,/2 op/3 1 2 3 b", nil},
			{":-", ":-/1 Op/3 1 fy a", nil}, {":-", ":-/2 b op/3 1 fy a", nil},
		}, ops)
	// How the term is written is no matter.
	for _, text := range []string{":- op(150,fy,a).", ":-op(150,fy,a).", ":-(op(150,fy,a)).", "':-'('op'(150,'fy','a')).", "(:- (op(150,fy,a))).", ":- op(0x96,fy,[a])."} {
		wantClauses(t, ops, text, nil, defaultWith(t, op(150, "fy", "a")))
	}
	bare := []impl.Op{comma()}
	wantClauses(t, bare, ":-(op(150,fy,a)). a a.", []found{{"a a", "a/1 a", nil}}, []impl.Op{comma(), op(150, "fy", "a")})
}

func TestReadClausesAddOps(t *testing.T) {
	ops := impl.DefaultOps()
	for _, name := range opTypes {
		for _, pri := range []int{1, 2, 700, 1199, 1200} {
			added := fmt.Sprintf("%d, %s", pri, name)
			wantClauses(t, ops, ":- op("+added+", new).", nil, defaultWith(t, op(pri, name, "new")))
			wantClauses(t, ops, ":- op("+added+", ['A b', '\\xff\\', new]).", nil,
				defaultWith(t, op(pri, name, "new"), op(pri, name, "A b"), op(pri, name, "\xff")))
			wantClauses(t, ops, ":- op("+added+", []).", nil, ops)
		}
		wantClauses(t, ops, fmt.Sprintf(":- op(0,%s,none). :- op(0,%s,[]). :- op(1200,%s,[]).", name, name, name), nil, ops)
	}
	wantClauses(t, ops, ":- op(200,xfx,\"\").", nil, ops)
	wantClauses(t, ops, ":- op(200,xfy,[a,b,a|[c]]).", nil, defaultWith(t, op(200, "xfy", "a"), op(200, "xfy", "b"), op(200, "xfy", "c")))
}

func TestReadClausesUseOps(t *testing.T) {
	ops := impl.DefaultOps()
	wantClauses(t, ops, ":- op(700,xfx,likes). a likes B. :- op(200,xf,['!!','?']). X '!!' = a ? .", []found{
		{"a likes", "likes/2 a X0", []string{"B"}}, {"X", "=/2 !!/1 X0 ?/1 a", []string{"X"}},
	}, defaultWith(t, op(700, "xfx", "likes"), op(200, "xf", "!!"), op(200, "xf", "?")))
	wantClauses(t, ops, "a-b-c. :- op(500,xfy,-). a-b-c. :- op(400,xfx,-). a-b+c. :- op(500,yfx,-). a-b-c.", []found{
		{"a-b-c", "-/2 -/2 a b c", nil}, {"a-b-c", "-/2 a -/2 b c", nil}, {"a-b+c", "+/2 -/2 a b c", nil}, {"a-b-c", "-/2 -/2 a b c", nil},
	}, ops)
	wantClauses(t, ops, ":- op(0,yfx,-). - a. :- op(0,fy,-). -1. -(a). - .", []found{
		{"- a", "-/1 a", nil}, {"-1", "-1", nil}, {"-(a)", "-/1 a", nil}, {"- .", "-", nil},
	}, without(without(ops, "-", true), "-", false))
	// Prefix and infix operators of one name are two; infix and postfix ones of one name cannot be.
	wantClauses(t, ops, ":- op(300,fx,w). :- op(300,xf,w). w a. a w. :- op(0,yf,w). :- op(300,xfx,w). a w w.", []found{
		{"w a", "w/1 a", nil}, {"a w", "w/1 a", nil}, {"a w w", "w/2 a w", nil},
	}, defaultWith(t, op(300, "fx", "w"), op(300, "xfx", "w")))
	// A clause that takes the only way away by which clauses say something of operators.
	wantClauses(t, ops, ":- op(0,fx,:-). :-(op(0,xfx,:-)). :- . :-(a,b).", []found{{":- .", ":-", nil}, {":-(a", ":-/2 a b", nil}},
		without(without(ops, ":-", true), ":-", false))
}

// An operator holds only for what stands behind the clause that adds it.
func TestReadClausesBeforeOps(t *testing.T) {
	ops := impl.DefaultOps()
	wantClausesFault(t, ops, "a likes b. :- op(700,xfx,likes).", impl.CodeSyntax, 2)
	wantClausesFault(t, ops, ":- op(700,xfx,likes). a likes b. :- op(0,xfx,likes). a likes b.", impl.CodeSyntax, 55)
	wantClausesFault(t, ops, ":- op(700,xfx,likes), a likes b.", impl.CodeSyntax, 24)
	if _, _, code, _ := impl.ReadClauses(ops, []byte(":- op(700,xfx,likes).")); code != impl.CodeOK {
		t.Errorf("code %d", code)
	}
	// Nothing is kept from call to call.
	wantClausesFault(t, ops, "a likes b.", impl.CodeSyntax, 2)
}

func TestReadClausesBadOps(t *testing.T) {
	ops := impl.DefaultOps()
	bad := []string{
		"1201,xfx,a", "-1,xfx,a", "1000000000000000,xfx,a", "P,xfx,a", "p,xfx,a", "'700',xfx,a", "[],xfx,a", "- 1,xfx,a", "1+1,xfx,a", "\"7\",xfx,a", "_,xfx,[]",
		"1201,xfx,[]", "-1,xfx,[]", "a,xfx,[]",
		"200,xyz,a", "200,xffx,a", "200,f,a", "200,'',a", "200,'XFX',a", "200,T,a", "200,0,a", "200,fy(a),a", "200,[],a", "200,[xfx],a", "200,yfy,a", "200,fxx,[]", "200,1,[]",
		"200,xfx,7", "200,xfx,N", "200,xfx,f(a)", "200,xfx,[a|b]", "200,xfx,[a|X]", "200,xfx,[a,X]", "200,xfx,[X,a]", "200,xfx,[1]", "200,xfx,[a,f(b)]",
		"200,xfx,\"ab\"", "200,xfx,[[a]]", "200,xfx,{a}", "200,xfx,(a,b)", "200,xfx,[a,[b]]", "200,xfx,'.'(a)", "200,xfx,a/2", "200,xfx,[a,\"b\"]",
		"200,xf,=", "200,yf,[a,=,b]", "0,xf,=", "200,xfx,','", "200,fy,','", "1000,xfy,','", "0,xfy,','", "200,xfx,[a,',']", "200,xfx,{}", "200,fy,'{}'", "200,xfx,'|'",
		"1100,xfy,'|'", "200,xfx,[[]]", "200,xfx,[a,[]]", "200,xfx,''", "200,fy,[a,'',b]",
	}
	for _, args := range bad {
		directive := ":- op(" + args + ")."
		wantClausesFault(t, ops, directive, impl.CodeFail, 0)
		wantClausesFault(t, ops, " a. X=Y.\n\t"+directive+" b.", impl.CodeFail, 10)
		// Clause by clause: a fault behind it is not seen, one before it is.
		wantClausesFault(t, ops, "a. "+directive+" b c.", impl.CodeFail, 3)
		wantClausesFault(t, ops, "a b. "+directive, impl.CodeSyntax, 2)
		wantClausesFault(t, ops, directive[:len(directive)-1], impl.CodeSyntax, len(directive)-1)
	}
	wantClausesFault(t, ops, ":- op(300,xf,w). :- op(300,xfx,w).", impl.CodeFail, 17)
	wantClausesFault(t, ops, ":- op(300,xfx,w). a. :- op(300,xf,[v,w]).", impl.CodeFail, 21)
}

func TestReadClausesFullTable(t *testing.T) {
	full := append(fullTable(impl.MaxOps-1), op(1200, "fx", "zz"))
	if !impl.ValidOps(full) {
		t.Fatal("the table is not valid")
	}
	wantClauses(t, full, ":-(op(700,xfx,op000)). :-(op(0,xfx,op001)). :-(op(9,fy,new)). a op000 new b.", []found{{"a op000", "op000/2 a new/1 b", nil}},
		mustAdd(t, mustAdd(t, without(full, "op001", false), op(700, "xfx", "op000")), op(9, "fy", "new")))
	wantClausesFault(t, full, ":-(op(1,fy,new)).", impl.CodeFail, 0)
	wantClausesFault(t, full, "a. :-(op(0,xfx,op001)). :-(op(1,fy,[new,newer])).", impl.CodeFail, 24)
}

func TestReadClausesCount(t *testing.T) {
	ops := impl.DefaultOps()
	many := strings.Repeat("a. ", impl.MaxClauses)
	clauses, _, code, _ := impl.ReadClauses(ops, []byte(many))
	if code != impl.CodeOK || len(clauses) != impl.MaxClauses || clauses[impl.MaxClauses-1].At != 3*(impl.MaxClauses-1) {
		t.Errorf("code %d, %d clauses", code, len(clauses))
	}
	directive := ":- op(1,fy,w). "
	clauses, _, code, _ = impl.ReadClauses(ops, []byte(strings.Repeat(directive, 300)+many+directive))
	if code != impl.CodeOK || len(clauses) != impl.MaxClauses || clauses[0].At != 300*len(directive) {
		t.Errorf("with operators: code %d, %d clauses", code, len(clauses))
	}
	end := len(many)
	wantClausesFault(t, ops, many+"a.", impl.CodeLimit, end)
	wantClausesFault(t, ops, many+"a. b c.", impl.CodeLimit, end)
	wantClausesFault(t, ops, many+directive+" a. b.", impl.CodeLimit, end+len(directive)+1)
	wantClausesFault(t, ops, directive+many+"\n:- a.", impl.CodeLimit, end+len(directive)+1)
	wantClausesFault(t, ops, many+"a b.", impl.CodeSyntax, end+2)
	wantClausesFault(t, ops, many+"a", impl.CodeSyntax, end+1)
	wantClausesFault(t, ops, many+":- op(1,2,3).", impl.CodeFail, end)
	wantClausesFault(t, ops, strings.Repeat("a.\n", 3000), impl.CodeLimit, 3*impl.MaxClauses)
}

func TestReadClausesStop(t *testing.T) {
	for _, marked := range []string{
		"a. ¦.", "a. ¦) b.", "a. b¦", "a. b ¦c.", "a. b. f(¦", "a¦.b. c.", "a. f(b¦. c.", "a. [b|c¦|d]. e.", "a. X = ¦. b.", "¦. a.", "a ¦b. c d.", ":- op(1,fy,w). w w¦",
	} {
		src, at := unmarked(t, marked)
		wantClausesFault(t, impl.DefaultOps(), src, impl.CodeSyntax, at)
	}
}

// The names of many operators in one clause are bounded by the clause alone.
func TestReadClausesManyNames(t *testing.T) {
	names := func(n int) string { return strings.TrimSuffix(strings.Repeat("w,", n), ",") }
	wantClauses(t, impl.DefaultOps(), ":- op(1,fy,["+names(997)+"]).", nil, defaultWith(t, op(1, "fy", "w")))
	wantClausesFault(t, impl.DefaultOps(), ":- op(1,fy,["+names(998)+"]).", impl.CodeLimit, 0)
	wantClausesFault(t, impl.DefaultOps(), "a. :- op(1,xxx,["+names(998)+"]).", impl.CodeLimit, 3)
}
