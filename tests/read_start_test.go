package tests

import (
	"strings"
	"testing"

	"loop.example/s00095/impl"
)

func TestReadStarts(t *testing.T) {
	wantRead(t, impl.DefaultOps(), []reads{
		{"7", "7"}, {"0", "0"}, {"0x1f", "31"}, {"0'a", "97"}, {"1000000000000000", "1000000000000000"},
		{"X", "X0"}, {"_", "X0"}, {"_X1", "X0"},
		{"(a)", "a"}, {"((1))", "1"}, {"( X )", "X0"}, {"(a:-b)", ":-/2 a b"}, {"(:-a)", ":-/1 a"}, {"(a,b)", ",/2 a b"},
		{"a=(b)", "=/2 a b"}, {"a=(b:-c)", "=/2 a :-/2 b c"}, {"a=((b))", "=/2 a b"}, {"a=(b,c)", "=/2 a ,/2 b c"},
		{"f(a)", "f/1 a"}, {"f( a )", "f/1 a"}, {"f(a,b,c)", "f/3 a b c"}, {"f(g(a),[])", "f/2 g/1 a []"}, {"f((a,b))", "f/1 ,/2 a b"},
		{"f(a=b,c)", "f/2 =/2 a b c"}, {"f((a:-b))", "f/1 :-/2 a b"}, {"'hello world'(X)", `"hello\x20world"/1 X0`},
		{"''(a)", `""/1 a`}, {"'[]'(a)", "[]/1 a"}, {"'{}'(a)", "{}/1 a"}, {"'{}'(a,b)", "{}/2 a b"}, {"'.'(a,b)", "./2 a b"},
		{"!(a)", "!/1 a"}, {";(a,b)", ";/2 a b"}, {"','(a,b)", ",/2 a b"}, {"'|'(a,b)", "|/2 a b"}, {"=..(a)", "=../1 a"},
		{"a", "a"}, {"'A b'", `"A\x20b"`}, {"''", `""`}, {"!", "!"}, {";", ";"}, {"'[]'", "[]"}, {"'{}'", "{}"}, {"'|'", "|"},
		{"'.'", "."}, {"','", ","}, {"'12'", `"12"`}, {"'X'", "X"}, {"\\", "\\"}, {"..", ".."},
	})
}

func TestReadBrackets(t *testing.T) {
	wantRead(t, impl.DefaultOps(), []reads{
		{"[]", "[]"}, {"[ ]", "[]"}, {"[% c\n]", "[]"}, {"[a]", "./2 a []"}, {"[a,b]", "./2 a ./2 b []"},
		{"[a|b]", "./2 a b"}, {"[a,b|c]", "./2 a ./2 b c"}, {"[a|[b]]", "./2 a ./2 b []"}, {"[a|[]]", "./2 a []"},
		{"[[]]", "./2 [] []"}, {"[[a],[b|c]]", "./2 ./2 a [] ./2 ./2 b c []"}, {"[a|X]", "./2 a X0"},
		{"[a=b,c-d]", "./2 =/2 a b ./2 -/2 c d []"}, {"[(a,b)|(c:-d)]", "./2 ,/2 a b :-/2 c d"}, {"[\\+a|\\+b]", "./2 \\+/1 a \\+/1 b"},
		{"{}", "{}"}, {"{ }", "{}"}, {"{a}", "{}/1 a"}, {"{{}}", "{}/1 {}"}, {"{a,b}", "{}/1 ,/2 a b"}, {"{a:-b}", "{}/1 :-/2 a b"},
		{"{:-a}", "{}/1 :-/1 a"}, {"{[]}", "{}/1 []"}, {"{a|b}", "{}/1 ;/2 a b"}, {"[]=[]", "=/2 [] []"}, {"{}-{}", "-/2 {} {}"},
		{"f([],{})", "f/2 [] {}"}, {"\\+[]", "\\+/1 []"}, {"\\+{}", "\\+/1 {}"}, {"\\+{a}", "\\+/1 {}/1 a"},
	})
}

// Of several starts that apply the first one is taken.
func TestReadStartOrder(t *testing.T) {
	wantRead(t, impl.DefaultOps(), []reads{
		{"-(1)", "-/1 1"}, {"-(1)^2", "^/2 -/1 1 2"}, {"-1^2", "^/2 -1 2"}, {"- 1^2", "-/1 ^/2 1 2"}, {"- (1)^2", "-/1 ^/2 1 2"},
		{"-(-1)", "-/1 -1"}, {"-(-(1))", "-/1 -/1 1"}, {"\\+(a,b)", "\\+/2 a b"}, {"\\+ (a,b)", "\\+/1 ,/2 a b"},
		{"f(:-(a))", "f/1 :-/1 a"}, {"f(:-(a),b)", "f/2 :-/1 a b"}, {":-(a):-b", ":-/2 :-/1 a b"}, {":-(a,b)", ":-/2 a b"},
		{"dynamic(a),b", ",/2 dynamic/1 a b"}, {"dynamic a,b", "dynamic/1 ,/2 a b"}, {"\\(a)+b", "+/2 \\/1 a b"},
		{"[-(1)]", "./2 -/1 1 []"}, {"-(1,2,3)", "-/3 1 2 3"}, {"- (1,2)", "-/1 ,/2 1 2"},
	})
	for _, typ := range opTypes {
		ops := []impl.Op{comma(), op(300, typ, "-")}
		wantRead(t, ops, []reads{{"-1", "-1"}, {"-(1)", "-/1 1"}, {"-(1,2)", "-/2 1 2"}, {"-", "-"}, {"f(-1,-)", "f/2 -1 -"}})
	}
}

func TestReadMinus(t *testing.T) {
	wantRead(t, impl.DefaultOps(), []reads{
		{"-1", "-1"}, {"-0", "0"}, {"-1000000000000000", "-1000000000000000"}, {"-0x10", "-16"}, {"-0'a", "-97"}, {"'-'1", "-1"},
		{"- 1", "-/1 1"}, {"-\n1", "-/1 1"}, {"-% c\n1", "-/1 1"}, {"- /* c */1", "-/1 1"}, {"'-' 1", "-/1 1"},
		{"-X", "-/1 X0"}, {"-a", "-/1 a"}, {"-\"\"", "-/1 []"}, {"-[]", "-/1 []"}, {"-{}", "-/1 {}"},
		{"1-1", "-/2 1 1"}, {"1 - 1", "-/2 1 1"}, {"1 -1", "-/2 1 1"}, {"1- 1", "-/2 1 1"}, {"1- -1", "-/2 1 -1"}, {"1 - - 1", "-/2 1 -/1 1"},
		{"X-1", "-/2 X0 1"}, {"(a)-1", "-/2 a 1"}, {"[]-1", "-/2 [] 1"}, {"a-1-1", "-/2 -/2 a 1 1"}, {"f(a)-1", "-/2 f/1 a 1"},
		{"- -1", "-/1 -1"}, {"- - 1", "-/1 -/1 1"}, {"+ -1", "+/1 -1"}, {"+1", "+/1 1"}, {"+ 1", "+/1 1"}, {"+ + 1", "+/1 +/1 1"},
		{"-1+2", "+/2 -1 2"}, {"- 1+2", "+/2 -/1 1 2"}, {"-a*b", "*/2 -/1 a b"}, {"-1*b", "*/2 -1 b"}, {"2** -1", "**/2 2 -1"},
		{"[-1,- 1,-]", "./2 -1 ./2 -/1 1 ./2 - []"}, {"[-1|-1]", "./2 -1 -1"}, {"f(-1)", "f/1 -1"}, {"{-1}", "{}/1 -1"}, {"(-1)", "-1"},
		{"-(1)-(1)", "-/2 -/1 1 1"}, {"-1-1", "-/2 -1 1"}, {"'-'(1)", "-/1 1"}, {"- (-)", "-/1 -"}, {"- = -", "=/2 - -"},
	})
	wantStops(t, impl.DefaultOps(), []string{"1¦--1.", "2¦**-1.", "(-)¦1.", "-1 ¦1.", "- 1 ¦1.", "-1¦(2).", "-1 ¦a."})
	bare := []impl.Op{comma()}
	wantRead(t, bare, []reads{{"-1", "-1"}, {"-", "-"}, {"[-1|-]", "./2 -1 -"}, {"f(-1,'-'1)", "f/2 -1 -1"}})
	wantStops(t, bare, []string{"- ¦1.", "-¦a.", "1 ¦-1.", "- ¦-1."})
}

// prefixTable has a name for each set of sorts that an operator may have, all of one priority.
func prefixTable() []impl.Op {
	return sortedTable(comma(), op(300, "fy", "p"), op(300, "xfx", "i"), op(300, "xf", "q"),
		op(300, "fy", "pi"), op(300, "yfx", "pi"), op(300, "fy", "pq"), op(300, "yf", "pq"), op(300, "xfx", "-"))
}

func TestReadPrefixBeforeATerm(t *testing.T) {
	wantRead(t, prefixTable(), []reads{
		{"p 1", "p/1 1"}, {"p X", "p/1 X0"}, {"p _", "p/1 X0"}, {"p \"a\"", "p/1 ./2 97 []"}, {"p \"\"", "p/1 []"},
		{"p (a)", "p/1 a"}, {"p (a,b)", "p/1 ,/2 a b"}, {"p [a]", "p/1 ./2 a []"}, {"p []", "p/1 []"}, {"p {a}", "p/1 {}/1 a"}, {"p {}", "p/1 {}"},
		{"p a", "p/1 a"}, {"p 'A'", "p/1 A"}, {"p ''", `p/1 ""`}, {"p !", "p/1 !"}, {"p f(a)", "p/1 f/1 a"},
		{"p p", "p/1 p"}, {"p p a", "p/1 p/1 a"}, {"p pi", "p/1 pi"}, {"p pi a", "p/1 pi/1 a"}, {"p pq", "p/1 pq"}, {"p pq a", "p/1 pq/1 a"},
		{"p i(a)", "p/1 i/1 a"}, {"p i(a,b)", "p/1 i/2 a b"}, {"p q(a)", "p/1 q/1 a"}, {"p ','(a)", "p/1 ,/1 a"}, {"p -(a)", "p/1 -/1 a"},
		{"p -1", "p/1 -1"}, {"p p -1", "p/1 p/1 -1"}, {"'p' a", "p/1 a"}, {"p'A'", "p/1 A"}, {"p[a]", "p/1 ./2 a []"},
	})
}

func TestReadPrefixBeforeNoTerm(t *testing.T) {
	ops := prefixTable()
	wantRead(t, ops, []reads{
		{"p", "p"}, {"(p)", "p"}, {"[p]", "./2 p []"}, {"[p|p]", "./2 p p"}, {"[p,p]", "./2 p ./2 p []"}, {"{p}", "{}/1 p"},
		{"f(p)", "f/1 p"}, {"f(p,p)", "f/2 p p"}, {"p,p", ",/2 p p"}, {"p|p", ";/2 p p"},
		{"p i a", "i/2 p a"}, {"p i p", "i/2 p p"}, {"p q", "q/1 p"}, {"p - 1", "-/2 p 1"}, {"p - a", "-/2 p a"}, {"p ',' a", ",/2 p a"},
		{"p p i a", "p/1 i/2 p a"}, {"p p q", "p/1 q/1 p"}, {"pi i a", "i/2 pi a"},
	})
	// Behind a prefix operator no token but these begins a term, so the operator is an atom, and nothing is lost.
	wantStops(t, ops, []string{"p ¦).", "p ¦].", "p ¦}.", "f(p ¦].", "p¦", "p p¦", "(p ¦.", "f(p¦", "[p ¦.", "p i ¦."})
	// A token that can begin a term is taken as one, even if the term then goes wrong.
	wantStops(t, ops, []string{"p (¦).", "p [¦,a].", "p {¦.", "p p ¦).", "p i(¦).", "p (a¦"})
}

func TestReadPrefixAboveThePriority(t *testing.T) {
	ops := impl.DefaultOps()
	wantRead(t, ops, []reads{
		{"f(:-)", "f/1 :-"}, {"f(:-,a)", "f/2 :- a"}, {"f(:- = a)", "f/1 =/2 :- a"}, {"[:-|?-]", "./2 :- ?-"}, {"f((:- a))", "f/1 :-/1 a"},
		{":- (:- a)", ":-/1 :-/1 a"}, {"- :-", "-/1 :-"}, {":- :-", ":-/1 :-"}, {"a= \\+", "=/2 a \\+"}, {":- dynamic a", ":-/1 dynamic/1 a"},
		{"\\+ \\+a", "\\+/1 \\+/1 a"}, {"- (:- a)", "-/1 :-/1 a"}, {"dynamic dynamic", "dynamic/1 dynamic"}, {"a:- \\+b", ":-/2 a \\+/1 b"},
		{"{dynamic a}", "{}/1 dynamic/1 a"}, {"f(\\+a,- -a)", "f/2 \\+/1 a -/1 -/1 a"}, {"- \\+", "-/1 \\+"}, {"f(:- -1)", "f/1 -/2 :- 1"},
	})
	wantStops(t, ops, []string{
		"f(:- ¦a).", "[:- ¦a].", "[a|:- ¦a].", "- :- ¦a.", ":- :- ¦a.", "a= \\+ ¦b.", "dynamic dynamic ¦a.", "f(:- ¦(a)).", "f(:- ¦[]).", "- \\+ ¦a.",
		"f(dynamic ¦a).", "a:- :- ¦b.", "?- ?- ¦a.",
	})
	for _, pri := range []int{1, 998, 999} {
		wantRead(t, []impl.Op{comma(), op(pri, "fx", "w")}, []reads{{"f(w a)", "f/1 w/1 a"}, {"[w a|w a]", "./2 w/1 a w/1 a"}})
	}
	above := []impl.Op{comma(), op(1000, "fx", "w")}
	wantStops(t, above, []string{"f(w ¦a).", "[w ¦a].", "[w|w ¦a].", "[b|w ¦a]."})
	wantRead(t, above, []reads{{"w a", "w/1 a"}, {"(w a)", "w/1 a"}, {"{w a}", "{}/1 w/1 a"}, {"f((w a))", "f/1 w/1 a"}, {"f(w)", "f/1 w"}})
}

func TestReadOperatorsAsAtoms(t *testing.T) {
	wantRead(t, impl.DefaultOps(), []reads{
		{"=", "="}, {"(=)", "="}, {"[=]", "./2 = []"}, {"[=,=|=]", "./2 = ./2 = ="}, {"{=}", "{}/1 ="}, {"f(=)", "f/1 ="}, {"f(=,*)", "f/2 = *"},
		{"= = =", "=/2 = ="}, {"(=)=(=)", "=/2 = ="}, {"* + *", "+/2 * *"}, {"mod mod mod", "mod/2 mod mod"}, {"*(*,*)", "*/2 * *"},
		{"- * 2", "*/2 - 2"}, {"- - -", "-/1 -/1 -"}, {"a - -", "-/2 a -"}, {"\\+ = \\+", "=/2 \\+ \\+"}, {"dynamic = dynamic", "=/2 dynamic dynamic"},
		{":- , :-", ",/2 :- :-"}, {"is", "is"}, {"X is is", "is/2 X0 is"}, {"[-]", "./2 - []"}, {"[-|-]", "./2 - -"},
		{"-(-)", "-/1 -"}, {"- (-)", "-/1 -"}, {"(-)-(-)", "-/2 - -"}, {"f(- , a)", "f/2 - a"}, {"a = :-", "=/2 a :-"}, {"f(;,'|',!)", "f/3 ; | !"},
		{"; ; ;", ";/2 ; ;"}, {"(;)", ";"}, {"f(',')", "f/1 ,"}, {"',' = ','", "=/2 , ,"}, {"',' , ','", ",/2 , ,"},
	})
	wantStops(t, impl.DefaultOps(), []string{":- :- ¦:- .", "= = = ¦= .", "a * ¦", "f(= ¦a).", "* ¦a.", "is ¦1."})
	wantRead(t, prefixTable(), []reads{
		{"q", "q"}, {"q q", "q/1 q"}, {"(q)", "q"}, {"[q]", "./2 q []"}, {"[q|q]", "./2 q q"}, {"f(q,i,p)", "f/3 q i p"}, {"{i}", "{}/1 i"},
		{"i", "i"}, {"i i i", "i/2 i i"}, {"(i)i(i)", "i/2 i i"}, {"i q", "q/1 i"}, {"q i q", "i/2 q q"}, {"i i(i)", "i/2 i i"},
		{"pi", "pi"}, {"pq", "pq"}, {"pq pq", "pq/1 pq"}, {"(pq)pq", "pq/1 pq"}, {"a pq", "pq/1 a"}, {"a pq pq", "pq/1 pq/1 a"},
		{"a pi pi", "pi/2 a pi"}, {"(pi)pi(pi)", "pi/2 pi pi"}, {"pi pi a", "pi/1 pi/1 a"},
	})
}

func TestReadStrings(t *testing.T) {
	longest := strings.Repeat("a", impl.MaxAtom)
	wantRead(t, impl.DefaultOps(), []reads{
		{`""`, "[]"}, {`"a"`, "./2 97 []"}, {`"ab"`, "./2 97 ./2 98 []"}, {`"a\n"`, "./2 97 ./2 10 []"}, {`""""`, "./2 34 []"}, {`"'"`, "./2 39 []"},
		{`"\x00\\xff\"`, "./2 0 ./2 255 []"}, {"\"\xff\"", "./2 255 []"}, {`f("a","")`, "f/2 ./2 97 [] []"}, {`["a"|"b"]`, "./2 ./2 97 [] ./2 98 []"},
		{`"a"="b"`, "=/2 ./2 97 [] ./2 98 []"}, {`"X"`, "./2 88 []"}, {`"` + longest + `"`, strings.Repeat("./2 97 ", impl.MaxAtom) + "[]"},
	})
	wantStops(t, impl.DefaultOps(), []string{`"a" ¦"b".`, `"a"¦(b).`, `"a" ¦'b'.`, `a ¦"b".`})
}

func TestReadVariables(t *testing.T) {
	cases := []struct {
		src   string
		want  string
		names []string
	}{
		{"a", "a", nil}, {"X", "X0", []string{"X"}}, {"_", "X0", []string{""}}, {"_X", "X0", []string{"_X"}}, {"__", "X0", []string{"__"}},
		{"f(X,X)", "f/2 X0 X0", []string{"X"}}, {"f(_,_)", "f/2 X0 X1", []string{"", ""}}, {"f(Y,X,Y)", "f/3 X0 X1 X0", []string{"Y", "X"}},
		{"f(X,_,Y,_,X,_Z,_,_Z,Y)", "f/9 X0 X1 X2 X3 X0 X4 X5 X4 X2", []string{"X", "", "Y", "", "_Z", ""}},
		{"Y=X,X=Y", ",/2 =/2 X0 X1 =/2 X1 X0", []string{"Y", "X"}}, {"[B,A|B]", "./2 X0 ./2 X1 X0", []string{"B", "A"}},
		{"{X}", "{}/1 X0", []string{"X"}}, {"-X", "-/1 X0", []string{"X"}}, {"f(X,x,'X',\"X\",X1)", "f/5 X0 x X ./2 88 [] X1", []string{"X", "X1"}},
		{"f(_0,_1,_0)", "f/3 X0 X1 X0", []string{"_0", "_1"}}, {"f(AB,Ab,A)", "f/3 X0 X1 X2", []string{"AB", "Ab", "A"}},
		{"f(_,X,__,_)", "f/4 X0 X1 X2 X3", []string{"", "X", "__", ""}}, {"A+B*A", "+/2 X0 */2 X1 X0", []string{"A", "B"}},
	}
	for _, c := range cases {
		clause, code, at := impl.ReadTerm(impl.DefaultOps(), []byte("  "+c.src+" ."))
		want := impl.Clause{Term: preorder(c.want)}
		for _, name := range c.names {
			want.Names = append(want.Names, []byte(name))
		}
		if code != impl.CodeOK || at != 0 || showClause(clause) != showClause(want) {
			t.Errorf("%q: code %d at %d\n got %s\nwant %s", c.src, code, at, showClause(clause), showClause(want))
		}
	}
	var many []string
	for range 900 {
		many = append(many, "_", "X", "Y")
	}
	clause, code, _ := impl.ReadTerm(impl.DefaultOps(), []byte("["+strings.Join(many[:997], ",")+"]."))
	if code != impl.CodeOK || len(clause.Names) != 333+2 || string(clause.Names[1]) != "X" || string(clause.Names[2]) != "Y" {
		t.Errorf("many variables: code %d, %d names", code, len(clause.Names))
	}
}
