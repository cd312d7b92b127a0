package tests

import (
	"strconv"
	"strings"
	"testing"

	"loop.example/s00095/impl"
)

func TestWriteVariables(t *testing.T) {
	ops := impl.DefaultOps()
	names := [][]byte{[]byte("Who"), nil, []byte("any bytes '\x00"), {}}
	wantWritten(t, ops, names, true, []written{
		{"X0", "Who"}, {"X1", "_1"}, {"X2", "any bytes '\x00"}, {"X3", "_3"}, {"X4", "_4"}, {"X1000000", "_1000000"},
		{"f/3 X0 X1 X0", "f(Who,_1,Who)"},
	})
	wantWritten(t, ops, names, false, []written{{"X0", "Who"}, {"X1", "_1"}, {"X2", "any bytes '\x00"}})
	wantWritten(t, ops, nil, true, []written{{"X0", "_0"}, {"X12", "_12"}, {"f/2 X7 X7", "f(_7,_7)"}})
}

func TestWriteNumbers(t *testing.T) {
	wantWritten(t, impl.DefaultOps(), nil, true, []written{
		{"0", "0"}, {"7", "7"}, {"-7", "-7"}, {"1000000000000000", "1000000000000000"},
		{"-1000000000000000", "-1000000000000000"}, {"f/1 -1", "f(-1)"}, {"./2 -1 -2", "[-1|-2]"},
	})
}

func TestWriteAtoms(t *testing.T) {
	ops := impl.DefaultOps()
	longest := strings.Repeat("\x01", impl.MaxAtom)
	wantWritten(t, ops, nil, true, []written{
		{"a", "a"}, {"aB_9", "aB_9"}, {"Ab", "'Ab'"}, {"_", "'_'"}, {"+", "+"}, {":-", ":-"}, {".", "'.'"}, {"..", ".."},
		{"/*", "'/*'"}, {"*/", "*/"}, {"!", "!"}, {";", ";"}, {",", "','"}, {"|", "'|'"}, {"[]", "[]"}, {"{}", "{}"},
		{`""`, "''"}, {`"it's"`, `'it\'s'`}, {`"a\\b"`, `'a\\b'`}, {`"\n\t\r\x7f\xff"`, `'\n\t\x0d\\x7f\\xff\'`},
		{strconv.Quote(longest), "'" + strings.Repeat(`\x01\`, impl.MaxAtom) + "'"}, {"dynamic", "dynamic"},
	})
	wantWritten(t, ops, nil, false, []written{
		{"Ab", "Ab"}, {".", "."}, {",", ","}, {"[]", "[]"}, {`""`, ""}, {`"it's"`, "it's"}, {`"\n\xff"`, "\n\xff"},
		{strconv.Quote(longest), longest},
	})
}

func TestWriteCompounds(t *testing.T) {
	ops := defaultWith(t, op(700, "xfx", "Odd"))
	wantWritten(t, ops, nil, true, []written{
		{"f/1 a", "f(a)"}, {"f/3 a b c", "f(a,b,c)"}, {"f/1 g/1 h/1 X0", "f(g(h(_0)))"}, {"A/1 a", "'A'(a)"},
		{`""/1 ""`, "''('')"}, {"+/3 a b c", "+(a,b,c)"}, {"-/3 1 2 3", "-(1,2,3)"}, {"=/1 a", "=(a)"}, {"!/1 a", "!(a)"},
		{"[]/1 a", "'[]'(a)"}, {"[]/2 a b", "'[]'(a,b)"}, {"{}/2 a b", "'{}'(a,b)"}, {"{}/3 a b c", "'{}'(a,b,c)"},
		{",/1 a", "','(a)"}, {",/3 a b c", "','(a,b,c)"}, {"|/2 a b", "'|'(a,b)"}, {"./1 a", "'.'(a)"},
		{"./3 a b c", "'.'(a,b,c)"}, {"Odd/1 a", "'Odd'(a)"}, {"\\+/2 a b", "\\+(a,b)"},
	})
	wantWritten(t, ops, nil, false, []written{
		{"A/1 a", "A(a)"}, {`""/1 ""`, "()"}, {"[]/1 a", "[](a)"}, {"{}/2 a b", "{}(a,b)"}, {",/1 a", ",(a)"},
		{"./1 a", ".(a)"}, {"|/2 a b", "|(a,b)"}, {"Odd/2 A B", "A Odd B"},
	})
}

// The arguments stand at 999, and an atom that is an operator stands there as it is.
func TestWriteArguments(t *testing.T) {
	ops := defaultWith(t, op(999, "yfx", "@"), op(1000, "yfx", "&"))
	wantWritten(t, ops, nil, true, []written{
		{"f/2 @/2 a b &/2 a b", "f(a@b,(a&b))"}, {"f/1 ,/2 a b", "f((a,b))"}, {"f/1 :-/2 a b", "f((a:-b))"},
		{"f/1 :-/1 a", "f((:-a))"}, {"f/2 - =", "f(-,=)"}, {"f/1 ,", "f(',')"}, {"f/1 ;/2 a b", "f((a;b))"},
		{"'/1 =/2 a b", `'\''(a=b)`}, {"f/1 dynamic/1 a", "f((dynamic a))"},
	})
}

func TestWriteLists(t *testing.T) {
	ops := defaultWith(t, op(999, "yfx", "@"), op(1000, "yfx", "&"))
	wantWritten(t, ops, nil, true, []written{
		{"./2 a []", "[a]"}, {"./2 a ./2 b ./2 c []", "[a,b,c]"}, {"./2 a X0", "[a|_0]"}, {"./2 a ./2 b c", "[a,b|c]"},
		{"./2 [] []", "[[]]"}, {"./2 ./2 a [] ./2 ./2 b X1 []", "[[a],[b|_1]]"}, {"./2 a 0", "[a|0]"}, {"./2 a {}", "[a|{}]"},
		{"./2 a ./1 b", "[a|'.'(b)]"}, {"./2 a ./3 b c d", "[a|'.'(b,c,d)]"}, {"./2 a []/1 b", "[a|'[]'(b)]"},
		{"./2 @/2 a b @/2 a b", "[a@b|a@b]"}, {"./2 &/2 a b &/2 a b", "[(a&b)|(a&b)]"},
		{"./2 ,/2 a b ./2 ,/2 c d []", "[(a,b),(c,d)]"}, {"./2 - ./2 = |", "[-,=|'|']"}, {"./2 - -", "[-|-]"},
		{"f/1 ./2 A []", "f(['A'])"},
	})
	// As an operator the pair has no say: a pair is a list all the same.
	odd := defaultWith(t, op(300, "xfy", "."))
	wantWritten(t, odd, nil, true, []written{
		{"./2 a b", "[a|b]"}, {"^/2 ./2 a b c", "[a|b]^c"}, {"=/2 ./2 a [] .", "[a]=('.')"}, {"./1 a", "'.'(a)"},
	})
	long := listTerm(manyItems(999, atomTerm("a"))...)
	want := "[" + strings.Repeat("a,", 998) + "a]"
	if got := impl.WriteTerm(odd, long, nil, true); string(got) != want {
		t.Errorf("a long list: %.100s", got)
	}
}

func TestWriteBraces(t *testing.T) {
	ops := impl.DefaultOps()
	wantWritten(t, ops, nil, true, []written{
		{"{}/1 a", "{a}"}, {"{}/1 ,/2 a b", "{a,b}"}, {"{}/1 :-/2 a b", "{a:-b}"}, {"{}/1 -", "{-}"}, {"{}/1 {}", "{{}}"},
		{"{}/1 {}/1 X0", "{{_0}}"}, {"-/1 {}/1 a", "-{a}"}, {"=/2 {}/1 a {}", "{a}={}"},
	})
	wantWritten(t, ops, nil, false, []written{{"{}/1 A", "{A}"}})
}

// Each type of operator, with operands one below, at and one above what it gives them.
func TestWritePriorities(t *testing.T) {
	ops := []impl.Op{comma()}
	for _, o := range []impl.Op{
		op(500, "xfx", "="), op(500, "xfy", "^"), op(500, "yfx", "*"), op(500, "fy", "-"), op(500, "fx", "#"),
		op(500, "xf", "?"), op(500, "yf", "~"), op(499, "xfx", "<"), op(501, "xfx", ">"), op(500, "xfx", "@"),
	} {
		ops = mustAdd(t, ops, o)
	}
	wantWritten(t, ops, nil, true, []written{
		{"=/2 </2 a b </2 c d", "a<b=c<d"}, {"=/2 @/2 a b @/2 c d", "(a@b)=(c@d)"}, {"=/2 >/2 a b >/2 c d", "(a>b)=(c>d)"},
		{"^/2 </2 a b </2 c d", "a<b^c<d"}, {"^/2 @/2 a b @/2 c d", "(a@b)^c@d"}, {"^/2 >/2 a b >/2 c d", "(a>b)^(c>d)"},
		{"*/2 </2 a b </2 c d", "a<b*c<d"}, {"*/2 @/2 a b @/2 c d", "a@b*(c@d)"}, {"*/2 >/2 a b >/2 c d", "(a>b)*(c>d)"},
		{"-/1 </2 a b", "-a<b"}, {"-/1 @/2 a b", "-a@b"}, {"-/1 >/2 a b", "- (a>b)"},
		{"#/1 </2 a b", "#a<b"}, {"#/1 @/2 a b", "# (a@b)"}, {"#/1 >/2 a b", "# (a>b)"},
		{"?/1 </2 a b", "a<b?"}, {"?/1 @/2 a b", "(a@b)?"}, {"?/1 >/2 a b", "(a>b)?"},
		{"~/1 </2 a b", "a<b~"}, {"~/1 @/2 a b", "a@b~"}, {"~/1 >/2 a b", "(a>b)~"},
		{"=/2 a =/2 b c", "a=(b=c)"}, {"=/2 =/2 a b c", "(a=b)=c"}, {"^/2 a ^/2 b c", "a^b^c"}, {"*/2 */2 a b c", "a*b*c"},
		{"*/2 a */2 b c", "a*(b*c)"}, {"-/1 -/1 a", "- -a"}, {"#/1 #/1 a", "# (#a)"}, {"~/1 ~/1 a", "a~ ~"}, {"?/1 ?/1 a", "(a?)?"},
		{"*/2 #/1 a b", "#a*b"}, {"~/1 #/1 a", "#a~"}, {"*/2 ~/1 a b", "a~ *b"}, {"*/2 ?/1 a b", "a? *b"}, {"-/1 ~/1 a", "-a~"},
	})
	least := []impl.Op{comma(), op(1, "fy", "-"), op(1, "xfx", "=")}
	wantWritten(t, least, nil, true, []written{
		{"-/1 -/1 a", "- -a"}, {"=/2 -/1 a -/1 b", "(-a)=(-b)"}, {"=/2 f/1 a 0", "f(a)=0"},
	})
	greatest := []impl.Op{comma(), op(1200, "fy", "-"), op(1200, "xfx", "=")}
	wantWritten(t, greatest, nil, true, []written{
		{"-/1 =/2 a b", "-a=b"}, {"=/2 a b", "a=b"}, {",/2 =/2 a b -/1 c", "(a=b),(-c)"}, {"{}/1 -/1 a", "{-a}"},
	})
}

// An operand on the left that would take the operator behind it stands in parentheses, once.
func TestWriteLeftOperands(t *testing.T) {
	ops := defaultWith(t, op(900, "yfx", "@@"), op(900, "xfy", "~~"), op(900, "yf", "??"), op(900, "fx", "##"), op(800, "fy", "&&"))
	wantWritten(t, ops, nil, true, []written{
		{"@@/2 ~~/2 a b c", "(a~~b)@@c"}, {"@@/2 \\+/1 a b", "(\\+a)@@b"}, {"??/1 ~~/2 a b", "(a~~b)??"}, {"??/1 \\+/1 a", "(\\+a)??"},
		{"@@/2 ##/1 a b", "##a@@b"}, {"??/1 ##/1 a", "##a??"}, {"@@/2 @@/2 a b c", "a@@b@@c"}, {"@@/2 ??/1 a b", "a?? @@b"},
		{"??/1 @@/2 a b", "a@@b??"}, {"@@/2 &&/1 a b", "&&a@@b"}, {"~~/2 ~~/2 a b c", "(a~~b)~~c"}, {",/2 ,/2 a b c", "(a,b),c"},
		{"~~/2 a \\+/1 b", "a~~ \\+b"}, {"~~/2 a @@/2 b c", "a~~b@@c"}, {"\\+/1 @@/2 a b", "\\+a@@b"}, {"\\+/1 ~~/2 a b", "\\+a~~b"},
		{"@@/2 :-/2 a b c", "(a:-b)@@c"}, {"^/2 -/1 a 2", "(-a)^2"}, {"-/2 ^/2 a b c", "a^b-c"},
	})
}

func TestWriteOperatorsAsOperands(t *testing.T) {
	ops := defaultWith(t, op(200, "xf", "post"), op(700, "xfx", "in"), op(100, "fy", "pre"))
	wantWritten(t, ops, nil, true, []written{
		{"=/2 - a", "(-)=a"}, {"=/2 a -", "a=(-)"}, {"-/1 -", "- (-)"}, {"post/1 post", "(post) post"}, {"=/2 in pre", "(in)=(pre)"},
		{"pre/1 in", "pre (in)"}, {",/2 , ,", "(','),(',')"}, {"=/2 dynamic ?-", "(dynamic)=(?-)"}, {"post/1 -->", "(-->) post"},
		{"=/2 a b", "a=b"}, {"=/2 [] {}", "[]={}"}, {"=/2 ! |", "!='|'"}, {"=/2 f/1 - -/3 a b c", "f(-)= -(a,b,c)"},
		{"-", "-"}, {",", "','"}, {"in", "in"},
	})
	wantWritten(t, ops, nil, false, []written{{",/2 , ,", "(,),(,)"}, {"=/2 , a", "(,)=a"}})
}

// A name that is prefix and postfix is written as prefix, one that is prefix and infix as both.
func TestWriteNamesOfTwoSorts(t *testing.T) {
	ops := []impl.Op{comma(), op(300, "fy", "i"), op(200, "xfx", "i"), op(100, "fx", "p"), op(400, "yf", "p")}
	wantWritten(t, ops, nil, true, []written{
		{"p/1 a", "p a"}, {"p/1 i/2 a b", "p (a i b)"}, {"i/1 a", "i a"}, {"i/2 a b", "a i b"}, {"i/2 i/1 a b", "(i a) i b"},
		{"p/2 a b", "p(a,b)"}, {"i/1 p/1 a", "i p a"}, {"i/2 p/1 a p/1 b", "p a i p b"},
	})
	postfix := []impl.Op{comma(), op(400, "yf", "p"), op(400, "xfx", "x")}
	wantWritten(t, postfix, nil, true, []written{{"p/1 a", "a p"}, {"p/2 a b", "p(a,b)"}, {"x/1 a", "x(a)"}, {"p/1 p/1 1", "1 p p"}})
}

func TestWriteSpacesAroundWords(t *testing.T) {
	ops := defaultWith(t, op(700, "xfx", "likes"), op(650, "fy", "not"), op(200, "xf", "done"), op(300, "yfx", "/*"),
		op(200, "fy", "."), op(200, "xf", "!!"), op(700, "xfx", "X\x01"), op(600, "xfy", ";;"), op(610, "yfx", "+a"), op(620, "xfx", ",,"))
	wantWritten(t, ops, nil, true, []written{
		{"is/2 X0 1", "_0 is 1"}, {"mod/2 + -1", "(+) mod -1"}, {"likes/2 ./2 a [] {}/1 b", "[a] likes {b}"},
		{"likes/2 not a", "(not) likes a"}, {"not/1 ,/2 a b", "not (a,b)"}, {"not/1 -1", "not -1"}, {"not/1 not/1 $", "not not $"},
		{"done/1 a", "a done"}, {"done/1 done", "(done) done"}, {"/*/2 + b", "(+) '/*' b"}, {"./1 ./1 a", "'.' '.' a"},
		{"!!/1 1", "1 '!!'"}, {`"X\x01"/2 A b`, `'A' 'X\x01\' b`}, {";;/2 a b", "a ';;' b"}, {"+a/2 1 2", "1 '+a' 2"}, {",,/2 a b", "a ',,' b"},
	})
	wantWritten(t, ops, nil, false, []written{
		{"/*/2 + b", "(+) /* b"}, {"./1 a", ". a"}, {"!!/1 1", "1 !!"}, {`"X\x01"/2 A b`, "A X\x01 b"}, {`mod/2 "" ""`, " mod "},
		{`not/1 ""`, "not "}, {`done/1 ""`, " done"},
	})
}

func TestWriteSpacesAroundSymbols(t *testing.T) {
	ops := defaultWith(t, op(200, "xf", "?"), op(190, "fy", "!"), op(300, "fy", "@"), op(10, "yf", "!"), op(1100, "fx", ";"))
	wantWritten(t, ops, nil, true, []written{
		{"=/2 a b", "a=b"}, {"=/2 X0 1", "_0=1"}, {"=/2 1 X0", "1=_0"}, {"=/2 A B", "'A'='B'"}, {",/2 a ,/2 1 X2", "a,1,_2"},
		{";/2 $ $", "$;$"}, {",/2 $ $", "$,$"}, {"=/2 $ a", "$ =a"}, {"=/2 a $", "a= $"}, {"=/2 $ $", "$ = $"}, {"=/2 a -1", "a= -1"},
		{"-/2 a -1", "a- -1"}, {"-/2 a 1", "a-1"}, {"-/2 -1 -1", "-1- -1"}, {"-/2 a -/1 b", "a- -b"}, {",/2 a -1", "a,-1"},
		{"-/1 1", "- 1"}, {"-/1 -1", "- -1"}, {"-/1 a", "-a"}, {"-/1 X0", "-_0"}, {"-/1 A", "-'A'"}, {"+/1 1", "+1"}, {"@/1 1", "@1"},
		{"\\/1 0", "\\0"}, {"@/1 -1", "@ -1"}, {"-/1 $", "- $"}, {"-/1 +/2 a b", "- (a+b)"}, {"@/1 ,/2 a b", "@ (a,b)"},
		{"!/1 a", "!a"}, {"!/1 1", "!1"}, {"!/1 -1", "!-1"}, {"!/1 !/1 a", "!!a"}, {"!/1 ,/2 a b", "! (a,b)"}, {"!/1 !", "! (!)"},
		{";/1 :-/2 a b", "; (a:-b)"}, {"-/1 ^/2 1 2", "- 1^2"}, {"-/1 -/1 1", "- - 1"}, {"^/2 -1 2", "-1^2"}, {"-/1 ./2 1 []", "-[1]"},
		{"-/1 f/1 a", "-f(a)"}, {"-/1 -/3 1 2 3", "- -(1,2,3)"}, {"?/1 a", "a?"}, {"?/1 $", "$ ?"}, {"?/1 -1", "-1?"}, {"=/2 ?/1 a b", "a? =b"},
		{"=/2 a =/2 b c", "a=(b=c)"}, {"-/2 a -/2 b c", "a-(b-c)"}, {",/2 :-/2 a b c", "(a:-b),c"}, {"-/2 a []", "a-[]"},
		{":-/1 dynamic/1 //2 f 1", ":-dynamic f/1"}, {"?-/1 \\+/1 a", "?- \\+a"}, {"*/2 a /", "a*(/)"}, {"//2 a */3 1 2 3", "a/ *(1,2,3)"},
	})
	names := [][]byte{[]byte("+"), []byte("(x"), []byte("1")}
	wantWritten(t, ops, names, true, []written{
		{"=/2 X0 X0", "+ = +"}, {"@/1 X1", "@ (x"}, {"=/2 a X1", "a=(x"}, {"-/1 X2", "- 1"}, {"+/1 X2", "+1"}, {"-/2 X2 X2", "1-1"},
	})
}

// An operand without a byte has none that a space could keep apart.
func TestWriteEmptyOperands(t *testing.T) {
	wantWritten(t, impl.DefaultOps(), nil, false, []written{
		{`=/2 "" ""`, "="}, {`=/2 "" a`, "=a"}, {`=/2 a ""`, "a="}, {`-/2 -/2 a "" b`, "a- -b"}, {`-/2 a */2 "" b`, "a- *b"},
		{`-/1 ""`, "-"}, {`-/1 ""/1 a`, "- (a)"}, {`-/2 a ""/1 a`, "a-(a)"}, {`./2 =/2 a "" ""`, "[a=|]"}, {`f/1 -/1 ""`, "f(-)"},
		{`,/2 -/1 "" 1`, "-,1"}, {`-/2 a mod/2 "" b`, "a- mod b"},
	})
}

func TestWriteDeepTerms(t *testing.T) {
	var prefix, right []impl.Cell
	for range impl.MaxCells - 1 {
		prefix = append(prefix, impl.Cell{Kind: impl.TermComp, N: 1, Text: []byte("-")})
	}
	for range (impl.MaxCells - 1) / 2 {
		right = append(right, preorder("-/2 1")...)
	}
	ops := impl.DefaultOps()
	deep := strings.Repeat("- ", impl.MaxCells-2) + "-a"
	if got := impl.WriteTerm(ops, append(prefix, atomTerm("a")...), nil, true); string(got) != deep {
		t.Errorf("prefix operators: %.100s", got)
	}
	nested := "1" + strings.Repeat("-(1", (impl.MaxCells-3)/2) + "-2" + strings.Repeat(")", (impl.MaxCells-3)/2)
	if got := impl.WriteTerm(ops, append(right, intTerm(2)...), nil, true); string(got) != nested {
		t.Errorf("operands on the right: %.100s", got)
	}
}

func TestWriteWrongArguments(t *testing.T) {
	good := preorder("f/1 a")
	for _, quoted := range []bool{false, true} {
		for i, ops := range badTables() {
			if got := impl.WriteTerm(ops, good, nil, quoted); len(got) != 0 {
				t.Errorf("bad table %d: %q", i, got)
			}
		}
		for i, x := range badTerms() {
			if got := impl.WriteTerm(impl.DefaultOps(), x, nil, quoted); len(got) != 0 {
				t.Errorf("bad term %d: %q", i, got)
			}
		}
		for i, ops := range goodTables() {
			if got := impl.WriteTerm(ops, good, nil, quoted); len(got) == 0 {
				t.Errorf("table %d: nothing", i)
			}
		}
		for i, x := range validTerms() {
			if got := impl.WriteTerm(impl.DefaultOps(), x, nil, true); len(got) == 0 {
				t.Errorf("term %d: nothing", i)
			}
		}
	}
}
