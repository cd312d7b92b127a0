package tests

import (
	"fmt"
	"strings"
	"testing"

	"loop.example/s00095/impl"
)

// namesOf are names in a line, a - for an empty one.
func namesOf(line string) [][]byte {
	var names [][]byte
	for _, name := range strings.Fields(line) {
		names = append(names, []byte(strings.TrimPrefix(name, "-")))
	}
	return names
}

func wantFormat(t *testing.T, ops []impl.Op, names [][]byte, terms [][]impl.Cell, want string) {
	t.Helper()
	if got := string(impl.FormatAnswer(ops, names, terms)); got != want {
		t.Errorf("%q %.300s:\n got %.300q\nwant %.300q", names, showLists(terms), got, want)
	}
}

func TestFormatAnswers(t *testing.T) {
	ops := impl.DefaultOps()
	for _, c := range []struct {
		names string
		terms []string
		want  string
	}{
		{"", nil, "true"},
		{"-", []string{"a"}, "true"},
		{"- - -", []string{"a", "f(X0)", "1"}, "true"},
		{"X", []string{"a"}, "X = a"},
		{"X", []string{"X0"}, "X = _0"},
		{"X", []string{"X7"}, "X = _7"},
		{"X", []string{"X1000000"}, "X = _1000000"},
		{"X Y", []string{"X0", "X0"}, "X = _0,\nY = _0"},
		{"X Y", []string{"X0", "X1"}, "X = _0,\nY = _1"},
		{"X Y Z", []string{"f(X2,X0)", "X2", "X0"}, "X = f(_2,_0),\nY = _2,\nZ = _0"},
		{"- Y", []string{"a", "b"}, "Y = b"},
		{"X -", []string{"a", "b"}, "X = a"},
		{"X - Z", []string{"a", "b", "c"}, "X = a,\nZ = c"},
		{"- Y - Z -", []string{"a", "b", "c", "d", "e"}, "Y = b,\nZ = d"},
		{"X", []string{"-1"}, "X = -1"},
		{"X", []string{"- 1"}, "X = - 1"},
		{"X", []string{"- a"}, "X = -a"},
		{"X", []string{"'B c'"}, "X = 'B c'"},
		{"X", []string{"''"}, "X = ''"},
		{"X", []string{"[]"}, "X = []"},
		{"X", []string{"{a, b}"}, "X = {a,b}"},
		{"X", []string{"[a, (b, c)|X3]"}, "X = [a,(b,c)|_3]"},
		{"X", []string{"\"ab\""}, "X = [97,98]"},
		{"X", []string{"f((a :- b), -)"}, "X = f((a:-b),-)"},
		{"_X Long_name1 A", []string{"a", "b", "c"}, "_X = a,\nLong_name1 = b,\nA = c"},
	} {
		var terms [][]impl.Cell
		for _, src := range c.terms {
			terms = append(terms, parsed(src))
		}
		wantFormat(t, ops, namesOf(c.names), terms, c.want)
	}
}

// A term is written as one that may stand on the right of an operator = of priority 700.
func TestFormatPriorities(t *testing.T) {
	ops := impl.DefaultOps()
	for src, want := range map[string]string{
		"a = b": "(a=b)", "X0 is 1": "(_0 is 1)", "a < b": "(a<b)", "(a, b)": "(a,b)", "(a ; b)": "(a;b)", "(a -> b)": "(a->b)", "(a :- b)": "(a:-b)", "(:- a)": "(:-a)", "(a --> b)": "(a-->b)",
		"dynamic(a)": "(dynamic a)", "(\\+ a)": "(\\+a)", "\\+ (a, b)": "(\\+ (a,b))", "a + b": "a+b", "a - b - c": "a-b-c", "a * b": "a*b", "2 ** 3": "2**3", "- (1)": "- 1", "\\ a": "\\a", "a mod b": "a mod b",
		// An atom is no operand, and has no parentheses whatever operator it is.
		":-": ":-", "dynamic": "dynamic", "+": "+", "','": "','", "is": "is", "[]": "[]",
		// Nor do compounds that are not written with operators.
		"f(a = b)": "f(a=b)", "f((a, b))": "f((a,b))", "[a = b]": "[a=b]", "{a :- b}": "{a:-b}", "=(a)": "=(a)", "=(a, b, c)": "=(a,b,c)", ":-(a, b, c)": ":-(a,b,c)",
		"(a = b) + c": "(a=b)+c", "1 - (2 = 3)": "1-(2=3)",
	} {
		wantFormat(t, ops, namesOf("X"), [][]impl.Cell{parsed(src)}, "X = "+want)
	}
	for _, typ := range opTypes {
		for _, pri := range []int{1, 698, 699, 700, 701, 1200} {
			table := defaultWith(t, op(pri, typ, "likes"))
			term, want := compTerm("likes", atomTerm("a"), atomTerm("b")), "a likes b"
			if len(typ) == 2 {
				term, want = compTerm("likes", atomTerm("a")), map[bool]string{true: "likes a", false: "a likes"}[typ[0] == 'f']
			}
			if pri > 699 {
				want = "(" + want + ")"
			}
			wantFormat(t, table, namesOf("X"), [][]impl.Cell{term}, "X = "+want)
		}
	}
	// A prefix operator is taken ahead of a postfix one.
	both := defaultWith(t, op(100, "fy", "w"), op(900, "xf", "w"))
	wantFormat(t, both, namesOf("X"), [][]impl.Cell{parsed("w(a)")}, "X = w a")
	both = defaultWith(t, op(900, "fy", "w"), op(100, "xf", "w"))
	wantFormat(t, both, namesOf("X"), [][]impl.Cell{parsed("w(a)")}, "X = (w a)")
	// The table alone says what = is.
	bare := []impl.Op{comma()}
	wantFormat(t, bare, namesOf("X Y"), [][]impl.Cell{parsed("a = b"), parsed("(a, b)")}, "X = =(a,b),\nY = (a,b)")
}

// Names are put as they are.
func TestFormatNames(t *testing.T) {
	for _, name := range []string{"x", " ", "X Y", "\n", "\x00\xff", "'", "=", strings.Repeat("N", 300)} {
		wantFormat(t, impl.DefaultOps(), [][]byte{[]byte(name)}, [][]impl.Cell{atomTerm("a")}, name+" = a")
		wantFormat(t, impl.DefaultOps(), [][]byte{[]byte(name), nil, []byte(name)}, [][]impl.Cell{intTerm(1), intTerm(2), varTerm(3)}, name+" = 1,\n"+name+" = _3")
	}
	// They are not those of variables in the terms.
	wantFormat(t, impl.DefaultOps(), namesOf("X Y"), [][]impl.Cell{varTerm(0), varTerm(1)}, "X = _0,\nY = _1")
}

func TestFormatNothing(t *testing.T) {
	ops, names, terms := impl.DefaultOps(), namesOf("X - Z"), [][]impl.Cell{atomTerm("a"), intTerm(1), varTerm(0)}
	wantFormat(t, ops, names, terms, "X = a,\nZ = _0")
	for i, bad := range badTables() {
		wantFormat(t, bad, names, terms, "")
		wantFormat(t, bad, nil, nil, "")
		if t.Failed() {
			t.Fatalf("table %d", i)
		}
	}
	for i, bad := range badTerms() {
		for at := range terms {
			spoiled := [][]impl.Cell{terms[0], terms[1], terms[2]}
			spoiled[at] = bad
			wantFormat(t, ops, names, spoiled, "")
		}
		wantFormat(t, ops, namesOf("-"), [][]impl.Cell{bad}, "")
		if t.Failed() {
			t.Fatalf("term %d", i)
		}
	}
	for n := range 6 {
		if n != len(terms) {
			wantFormat(t, ops, manyNames(n), terms, "")
		}
		if n != len(names) {
			wantFormat(t, ops, names, manyItems(n, atomTerm("a")), "")
		}
	}
	wantFormat(t, ops, [][]byte{nil}, nil, "")
	wantFormat(t, ops, nil, [][]impl.Cell{atomTerm("a")}, "")
}

func manyNames(n int) [][]byte {
	var names [][]byte
	for i := range n {
		names = append(names, fmt.Appendf(nil, "N%d", i))
	}
	return names
}

func TestFormatGreatAnswers(t *testing.T) {
	ops := impl.DefaultOps()
	deep := "X = " + strings.Repeat("f(", impl.MaxCells-1) + "a" + strings.Repeat(")", impl.MaxCells-1)
	wantFormat(t, ops, namesOf("X"), [][]impl.Cell{chain(impl.MaxCells)}, deep)
	wantFormat(t, ops, namesOf("X"), [][]impl.Cell{chain(impl.MaxCells + 1)}, "")
	wantFormat(t, ops, namesOf("X -"), [][]impl.Cell{chain(impl.MaxCells), chain(impl.MaxCells + 1)}, "")
	// There may be any number of them.
	many := manyOf(3000, ",\n", func(i int) string { return fmt.Sprintf("N%d = f(a)", i) })
	wantFormat(t, ops, manyNames(3000), manyItems(3000, parsed("f(a)")), many)
	long := strings.Repeat("\n", impl.MaxAtom)
	wantFormat(t, ops, namesOf("X"), [][]impl.Cell{atomTerm(long)}, "X = '"+strings.Repeat("\\n", impl.MaxAtom)+"'")
	wantFormat(t, ops, namesOf("X"), [][]impl.Cell{atomTerm(long + "\n")}, "")
	wantFormat(t, ops, namesOf("X Y"), [][]impl.Cell{intTerm(impl.MaxInt), intTerm(-impl.MaxInt)}, "X = 1000000000000000,\nY = -1000000000000000")
	wantFormat(t, ops, namesOf("X"), [][]impl.Cell{intTerm(impl.MaxInt + 1)}, "")
	wantFormat(t, ops, namesOf("X"), [][]impl.Cell{intTerm(-impl.MaxInt - 1)}, "")
}

// Terms and tables of all sorts, against the text that a term has alone.
func TestFormatReference(t *testing.T) {
	t.Parallel()
	d := dice(133)
	tables := append(goodTables(), impl.DefaultOps(), defaultWith(t, op(700, "xfx", "f"), op(699, "fy", "g"), op(701, "yf", "h"), op(1, "xfx", "a")))
	for range 6000 {
		ops := tables[d.below(len(tables))]
		n := d.below(4)
		names, terms := manyNames(n), make([][]impl.Cell, n)
		for i := range n {
			terms[i] = randomTerm(&d, 1+d.below(4))
			if d.below(3) == 0 {
				names[i] = nil
			}
		}
		wantFormat(t, ops, names, terms, refAnswer(ops, names, terms))
	}
}
