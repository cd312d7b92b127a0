package tests

import (
	"fmt"
	"strings"
	"testing"

	"loop.example/s00095/impl"
)

func TestReadOperators(t *testing.T) {
	wantRead(t, impl.DefaultOps(), []reads{
		{"1+2*3-4", "-/2 +/2 1 */2 2 3 4"}, {"1-2-3", "-/2 -/2 1 2 3"}, {"2^3^4", "^/2 2 ^/2 3 4"}, {"- 2^3", "-/1 ^/2 2 3"}, {"-a^b", "-/1 ^/2 a b"},
		{"a:-b,c;d->e", ":-/2 a ;/2 ,/2 b c ->/2 d e"}, {"a-->b,{c}", "-->/2 a ,/2 b {}/1 c"}, {"\\+a,b", ",/2 \\+/1 a b"},
		{"X is 1 mod 2", "is/2 X0 mod/2 1 2"}, {"a=b", "=/2 a b"}, {"a = b", "=/2 a b"}, {"a=\nb", "=/2 a b"}, {"a'='b", "=/2 a b"},
		{"(a=b)=c", "=/2 =/2 a b c"}, {"a=(b=c)", "=/2 a =/2 b c"}, {"a,b,c", ",/2 a ,/2 b c"}, {"(a,b),c", ",/2 ,/2 a b c"},
		{"1-(2-3)", "-/2 1 -/2 2 3"}, {"(2^3)^4", "^/2 ^/2 2 3 4"}, {"a*(b+c)", "*/2 a +/2 b c"}, {"f(x)+g(y)", "+/2 f/1 x g/1 y"},
		{"a->b;c", ";/2 ->/2 a b c"}, {"a;b->c", ";/2 a ->/2 b c"}, {"a:-b", ":-/2 a b"}, {"?-a,b", "?-/1 ,/2 a b"}, {"[a|b]=c", "=/2 ./2 a b c"},
		{"a<<1>>2", ">>/2 <</2 a 1 2"}, {"\\a/\\b", "/\\/2 \\/1 a b"}, {"- - - a", "-/1 -/1 -/1 a"}, {"X=..Y", "=../2 X0 X1"},
	})
	wantStops(t, impl.DefaultOps(), []string{"a=b¦=c.", "a:-b¦:-c.", "a-->b¦:-c.", "2**3¦**4.", "a ¦b.", "1 ¦X.", "a ¦[].", "a ¦{}.", "X¦(a).", "a =b ¦c."})
}

func TestReadPostfix(t *testing.T) {
	ops := defaultWith(t, op(200, "xf", "!"), op(400, "yf", "++"), op(1100, "yf", "done"))
	wantRead(t, ops, []reads{
		{"a!", "!/1 a"}, {"a !", "!/1 a"}, {"!", "!"}, {"! !", "!/1 !"}, {"a! ++", "++/1 !/1 a"}, {"a++ ++", "++/1 ++/1 a"}, {"a!+b!", "+/2 !/1 a !/1 b"},
		{"a^b!", "^/2 a !/1 b"}, {"- a!", "-/1 !/1 a"}, {"a+b++", "+/2 a ++/1 b"}, {"a*b++", "++/1 */2 a b"}, {"a++ *b", "*/2 ++/1 a b"},
		{"a,b done", "done/1 ,/2 a b"}, {"a:-b done done", ":-/2 a done/1 done/1 b"}, {"[a!,!|a!]", "./2 !/1 a ./2 ! !/1 a"}, {"f(a!)", "f/1 !/1 a"},
		{"!(a)!", "!/1 !/1 a"}, {"(a!)!", "!/1 !/1 a"}, {"-1!", "!/1 -1"}, {"[]!", "!/1 []"}, {"\"\"!", "!/1 []"}, {"X!", "!/1 X0"},
	})
	wantStops(t, ops, []string{"a!¦!.", "- a! ¦!.", "a++ ¦!.", "a! ¦b.", "a!¦(b).", "a! ¦1.", "f(a ¦done).", "a done ¦;b.", "a done ¦|b."})
}

// The priorities of the operand on each side, at, below and above what each type gives it.
func TestReadOperandPriorities(t *testing.T) {
	table := []impl.Op{comma()}
	for _, pri := range []int{498, 499, 500, 501, 502} {
		table = append(table, op(pri, "fy", fmt.Sprint("pre", pri)), op(pri, "xf", fmt.Sprint("post", pri)))
	}
	for _, typ := range opTypes {
		ops := sortedTable(append(table, op(500, typ, "o"))...)
		for _, pri := range []int{498, 499, 500, 501, 502} {
			wantLeft(t, ops, typ, pri)
			wantRight(t, ops, typ, pri)
		}
	}
}

func gives(letter byte, pri int) bool {
	return pri < 500 || letter == 'y' && pri == 500
}

func wantLeft(t *testing.T, ops []impl.Op, typ string, pri int) {
	t.Helper()
	rest, arity, args := " b", 2, " b"
	switch {
	case typ[0] == 'f':
		return
	case len(typ) == 2:
		rest, arity, args = "", 1, ""
	}
	if gives(typ[0], pri) {
		wantRead(t, ops, []reads{
			{fmt.Sprintf("a post%d o%s", pri, rest), fmt.Sprintf("o/%d post%d/1 a%s", arity, pri, args)},
			{fmt.Sprintf("(pre%d a)o%s", pri, rest), fmt.Sprintf("o/%d pre%d/1 a%s", arity, pri, args)},
		})
		return
	}
	wantStops(t, ops, []string{fmt.Sprintf("a post%d %so%s.", pri, stopMark, rest)})
	wantRead(t, ops, []reads{{fmt.Sprintf("(a post%d)o%s", pri, rest), fmt.Sprintf("o/%d post%d/1 a%s", arity, pri, args)}})
}

func wantRight(t *testing.T, ops []impl.Op, typ string, pri int) {
	t.Helper()
	front, arity, args := "a ", 2, "a "
	switch {
	case typ[len(typ)-1] == 'f':
		return
	case len(typ) == 2:
		front, arity, args = "", 1, ""
	}
	if gives(typ[len(typ)-1], pri) {
		wantRead(t, ops, []reads{
			{fmt.Sprintf("%so pre%d b", front, pri), fmt.Sprintf("o/%d %spre%d/1 b", arity, args, pri)},
			{fmt.Sprintf("%so b post%d", front, pri), fmt.Sprintf("o/%d %spost%d/1 b", arity, args, pri)},
		})
		return
	}
	wantStops(t, ops, []string{fmt.Sprintf("%so pre%d %sb.", front, pri, stopMark)})
	wantRead(t, ops, []reads{{fmt.Sprintf("%so(pre%d b)", strings.TrimSpace(front)+" ", pri), fmt.Sprintf("o/%d %spre%d/1 b", arity, args, pri)}})
	if pri > 500 {
		wantRead(t, ops, []reads{{fmt.Sprintf("%so b post%d", front, pri), fmt.Sprintf("post%d/1 o/%d %sb", pri, arity, args)}})
	} else {
		// The operator has the priority 500 itself, and an x on the left of the other one takes less.
		wantStops(t, ops, []string{fmt.Sprintf("%so b %spost%d.", front, stopMark, pri)})
	}
}

// Two infix operators in a row, with each pair of types and each order of their priorities.
func TestReadTwoInfix(t *testing.T) {
	for _, first := range []string{"xfx", "xfy", "yfx"} {
		for _, second := range []string{"xfx", "xfy", "yfx"} {
			for _, pri := range []int{499, 500, 501} {
				ops := []impl.Op{comma(), op(500, first, "u"), op(pri, second, "v")}
				switch {
				case pri < 500 || pri == 500 && first[2] == 'y':
					wantRead(t, ops, []reads{{"a u b v c", "u/2 a v/2 b c"}})
				case pri > 500 || second[0] == 'y':
					wantRead(t, ops, []reads{{"a u b v c", "v/2 u/2 a b c"}})
				default:
					wantStops(t, ops, []string{"a u b ¦v c."})
				}
			}
		}
	}
}

func TestReadComma(t *testing.T) {
	wantRead(t, impl.DefaultOps(), []reads{
		{"a,b", ",/2 a b"}, {"(a,b)", ",/2 a b"}, {"{a,b}", "{}/1 ,/2 a b"}, {"f(a,b)", "f/2 a b"}, {"f((a,b),c)", "f/2 ,/2 a b c"},
		{"[a,b]", "./2 a ./2 b []"}, {"[(a,b)]", "./2 ,/2 a b []"}, {"a',' b", ",/2 a b"}, {"a ',' b , c", ",/2 a ,/2 b c"}, {"f((a',' b))", "f/1 ,/2 a b"},
		{"a,b:-c", ":-/2 ,/2 a b c"}, {"\\+a,\\+b", ",/2 \\+/1 a \\+/1 b"}, {"a=b,c=d", ",/2 =/2 a b =/2 c d"}, {"','(a),b", ",/2 ,/1 a b"},
	})
	wantStops(t, impl.DefaultOps(), []string{
		"a=¦,b.", "¦,a.", "a,¦,b.", "a,¦.", "f(a ¦',' b).", "[a ¦',' b].", "[a|b¦,c].", "(a,¦).", "{a,¦}.", "f(a,¦).", "[a,¦].",
	})
	bounds := []struct {
		op   impl.Op
		want string // nothing where the comma is not taken
	}{
		{op(998, "fx", "w"), ",/2 w/1 a b"}, {op(999, "fx", "w"), ",/2 w/1 a b"}, {op(1000, "fx", "w"), ""}, {op(1001, "fx", "w"), "w/1 ,/2 a b"},
		{op(999, "fy", "w"), ",/2 w/1 a b"}, {op(1000, "fy", "w"), "w/1 ,/2 a b"}, {op(1001, "fy", "w"), "w/1 ,/2 a b"},
	}
	for _, c := range bounds {
		wantMark(t, []impl.Op{comma(), c.op}, "w a¦,b", c.want)
	}
}

// wantMark asks for a term, or, where there is none, that reading stops at the mark.
func wantMark(t *testing.T, ops []impl.Op, marked string, want string) {
	t.Helper()
	if want == "" {
		wantStops(t, ops, []string{marked + " ."})
		return
	}
	src, _ := unmarked(t, marked)
	wantRead(t, ops, []reads{{src, want}})
}

func TestReadBar(t *testing.T) {
	wantRead(t, impl.DefaultOps(), []reads{
		{"a|b", ";/2 a b"}, {"(a|b)", ";/2 a b"}, {"{a|b}", "{}/1 ;/2 a b"}, {"a|b|c", ";/2 a ;/2 b c"}, {"a;b|c", ";/2 a ;/2 b c"}, {"a|b;c", ";/2 a ;/2 b c"},
		{"a:-b|c", ":-/2 a ;/2 b c"}, {"a->b|c", ";/2 ->/2 a b c"}, {"a|b->c", ";/2 a ->/2 b c"}, {"a,b|c,d", ";/2 ,/2 a b ,/2 c d"}, {"f((a|b))", "f/1 ;/2 a b"},
		{"[(a|b)|c]", "./2 ;/2 a b c"}, {"(a|b)|c", ";/2 ;/2 a b c"}, {"- | -", ";/2 - -"}, {"'|'", "|"}, {"dynamic a|b", "dynamic/1 ;/2 a b"},
	})
	wantStops(t, impl.DefaultOps(), []string{"¦|a.", "a|¦|b.", "a|¦.", "f(a¦|b).", "[a|b¦|c].", "[a,b|c¦|d].", "a ¦'|' b.", "[¦|a].", "[a,¦|b].", "[a|¦].", "a|b¦"})
	bounds := []struct {
		op   impl.Op
		want string
	}{
		{op(1099, "fx", "w"), ";/2 w/1 a b"}, {op(1100, "fx", "w"), ""}, {op(1101, "fx", "w"), "w/1 ;/2 a b"}, {op(1200, "fx", "w"), "w/1 ;/2 a b"},
		{op(1099, "fy", "w"), ";/2 w/1 a b"}, {op(1100, "fy", "w"), "w/1 ;/2 a b"}, {op(1101, "fy", "w"), "w/1 ;/2 a b"},
	}
	for _, c := range bounds {
		wantMark(t, []impl.Op{comma(), c.op}, "w a¦|b", c.want)
	}
	for pri, want := range map[int]string{1098: ";/2 w/1 a b", 1099: ";/2 w/1 a b", 1100: "", 1101: "", 1200: ""} {
		wantMark(t, []impl.Op{comma(), op(pri, "xf", "w")}, "a w¦|b", want)
	}
}

// The bar means what it means whatever the table says of the semicolon.
func TestReadBarBesideSemicolon(t *testing.T) {
	wantRead(t, []impl.Op{comma()}, []reads{{"a|b|c", ";/2 a ;/2 b c"}, {"{a|b}", "{}/1 ;/2 a b"}})
	ops := []impl.Op{comma(), op(500, "yfx", ";")}
	wantRead(t, ops, []reads{{"a|b;c", ";/2 a ;/2 b c"}, {"a;b|c", ";/2 ;/2 a b c"}, {"a;b;c", ";/2 ;/2 a b c"}, {"a|b|c", ";/2 a ;/2 b c"}, {"f(a;b)", "f/1 ;/2 a b"}})
	wantStops(t, ops, []string{"f(a¦|b).", "[a|b¦|c]."})
	postfix := []impl.Op{comma(), op(1200, "xf", ";")}
	wantRead(t, postfix, []reads{{"a|b;", ";/1 ;/2 a b"}})
	wantStops(t, postfix, []string{"a; ¦|b."})
}
