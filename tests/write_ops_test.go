package tests

import (
	"math"
	"strings"
	"testing"

	"loop.example/s00095/impl"
)

func TestOpConstants(t *testing.T) {
	types := []int{impl.OpXFX, impl.OpXFY, impl.OpYFX, impl.OpFY, impl.OpFX, impl.OpXF, impl.OpYF}
	for i, typ := range types {
		if typ != i {
			t.Errorf("type %s is %d", opTypes[i], typ)
		}
	}
	if impl.MaxOps != 200 {
		t.Errorf("MaxOps is %d", impl.MaxOps)
	}
}

func goodTables() [][]impl.Op {
	longest := strings.Repeat("z", impl.MaxAtom)
	tables := [][]impl.Op{
		{comma()}, fullTable(impl.MaxOps), impl.DefaultOps(),
		{comma(), op(700, "xfx", longest)}, {op(700, "xfx", "!"), comma()}, {op(1, "fy", "\x00"), comma(), op(1, "xf", "\xff")},
		{comma(), op(1, "xfx", "a")}, {comma(), op(1200, "xfx", "a")},
		{comma(), op(1, "fy", "a"), op(1, "xfx", "a")}, {comma(), op(1, "fx", "a"), op(1, "xf", "a")},
		{comma(), op(1, "fy", "a"), op(1, "yf", "a")}, {comma(), op(1, "fx", "a"), op(1, "yfx", "a"), op(1, "fx", "aa")},
		{comma(), op(1, "xfx", "A"), op(1, "xfx", "a")}, {comma(), op(1, "xfx", "[")}, {comma(), op(1, "xfx", "[]]")},
		{comma(), op(1, "xfx", "{")}, {comma(), op(1, "xfx", "{}}")}, {comma(), op(1, "xfx", "||")}, {comma(), op(3, "fy", ",,")},
		{comma(), op(1, "xfx", "z"), op(1, "fy", "zz")}, {op(9, "xf", "'"), comma(), op(9, "fy", ".")},
	}
	for _, typ := range opTypes {
		tables = append(tables, []impl.Op{comma(), op(300, typ, "a")})
	}
	return tables
}

// badTables are lists of operators that miss being a table in one way each.
func badTables() [][]impl.Op {
	a := func(pri int, typ int) []impl.Op { return []impl.Op{comma(), {Name: []byte("a"), Pri: pri, Type: typ}} }
	return [][]impl.Op{
		nil, {}, {op(1, "xfx", "a")}, fullTable(impl.MaxOps + 1), make([]impl.Op, impl.MaxOps+1),
		{op(1, "xfx", ""), comma()}, {comma(), {Pri: 1}}, {comma(), op(1, "xfx", strings.Repeat("z", impl.MaxAtom+1))},
		{comma(), op(1, "xfx", "[]")}, {comma(), op(1, "xfx", "{}")}, {comma(), op(1100, "xfy", "|")},
		{comma(), op(1, "fy", "[]")}, {comma(), op(1, "fy", "{}")}, {comma(), op(1, "fy", "|")}, {comma(), op(1, "xf", "|")},
		a(0, 0), a(-1, 0), a(1201, 0), a(math.MaxInt, 0), a(math.MinInt, 0),
		a(1, -1), a(1, 7), a(1, math.MaxInt), a(1, math.MinInt),
		{op(1, "xfx", "a"), comma()}, {comma(), op(1, "xfx", "b"), op(1, "xfx", "a")},
		{comma(), op(1, "xfx", "aa"), op(1, "xfx", "a")}, {comma(), op(1, "xfx", "a"), op(1, "xfx", "A")},
		{comma(), op(1, "xfx", "a"), op(1, "fy", "a")}, {comma(), op(1, "xf", "a"), op(1, "fx", "a")},
		{comma(), op(1, "fy", "a"), op(1, "fx", "a")}, {comma(), op(1, "fx", "a"), op(1, "fy", "a")},
		{comma(), op(1, "fy", "a"), op(1, "fy", "a")}, {comma(), op(1, "xfx", "a"), op(1, "xfx", "a")},
		{comma(), op(1, "xfx", "a"), op(2, "xfy", "a")}, {comma(), op(1, "xfx", "a"), op(1, "xf", "a")},
		{comma(), op(1, "yf", "a"), op(1, "yfx", "a")}, {comma(), op(1, "xf", "a"), op(1, "yf", "a")},
		{comma(), op(1, "fy", "a"), op(1, "xfx", "a"), op(1, "yf", "a")},
		{comma(), comma()}, {op(999, "xfy", ",")}, {op(1001, "xfy", ",")}, {op(1000, "xfx", ",")}, {op(1000, "yfx", ",")},
		{op(1000, "fy", ",")}, {op(1000, "fy", ","), comma()}, {op(1000, "yf", ",")},
	}
}

func TestValidOps(t *testing.T) {
	for i, ops := range goodTables() {
		if !impl.ValidOps(ops) {
			t.Errorf("table %d is not valid: %.300s", i, showOps(ops))
		}
	}
	for i, ops := range badTables() {
		if impl.ValidOps(ops) {
			t.Errorf("bad table %d is valid: %.300s", i, showOps(ops))
		}
	}
}

// refValid asks for each thing of chapter 3.1 by itself.
func refValid(ops []impl.Op) bool {
	commas, prefixes, others := 0, map[string]int{}, map[string]int{}
	for i, o := range ops {
		name := string(o.Name)
		if len(name) < 1 || len(name) > 100 || name == "[]" || name == "{}" || name == "|" {
			return false
		}
		if o.Pri < 1 || o.Pri > 1200 || o.Type < 0 || o.Type > 6 {
			return false
		}
		isPrefix := o.Type == impl.OpFY || o.Type == impl.OpFX
		if isPrefix && others[name] > 0 || i > 0 && string(ops[i-1].Name) > name {
			return false
		}
		if isPrefix {
			prefixes[name]++
		} else {
			others[name]++
		}
		if prefixes[name] > 1 || others[name] > 1 {
			return false
		}
		if name == "," {
			commas++
			if o.Pri != 1000 || o.Type != impl.OpXFY {
				return false
			}
		}
	}
	return commas == 1 && len(ops) <= 200
}

func TestValidOpsAgainstReference(t *testing.T) {
	d := dice(31)
	names := []string{"a", "a", "b", "+", "", "|", ","}
	valid := 0
	for range 60000 {
		ops := []impl.Op{comma()}
		for range d.below(4) {
			ops = append(ops, impl.Op{Name: []byte(names[d.below(len(names))]), Pri: 1 + d.below(2), Type: d.below(7)})
		}
		if d.below(3) > 0 {
			ops = sortedTable(ops...)
		}
		if d.below(8) == 0 {
			ops[d.below(len(ops))].Pri = 1200 * d.below(3)
		}
		want := refValid(ops)
		if got := impl.ValidOps(ops); got != want {
			t.Fatalf("%s: %v, want %v", showOps(ops), got, want)
		}
		if want {
			valid++
		}
	}
	if valid < 5000 {
		t.Errorf("only %d valid tables came up", valid)
	}
}

func TestDefaultOps(t *testing.T) {
	lists := []struct {
		pri   int
		typ   string
		names string
	}{
		{1200, "xfx", ":- -->"}, {1200, "fx", ":- ?-"}, {1150, "fx", "dynamic"}, {1100, "xfy", ";"}, {1050, "xfy", "->"},
		{1000, "xfy", ","}, {900, "fy", `\+`}, {700, "xfx", `= \= == \== @< @=< @> @>= =.. is =:= =\= < =< > >=`},
		{500, "yfx", `+ - /\ \/ xor`}, {400, "yfx", "* / // mod rem << >>"}, {200, "xfx", "**"}, {200, "xfy", "^"},
		{200, "fy", `- + \`},
	}
	var want []impl.Op
	for _, list := range lists {
		for _, name := range strings.Fields(list.names) {
			want = append(want, op(list.pri, list.typ, name))
		}
	}
	got := impl.DefaultOps()
	if showOps(got) != showOps(sortedTable(want...)) {
		t.Errorf("got %s\nwant %s", showOps(got), showOps(sortedTable(want...)))
	}
	if !impl.ValidOps(got) || len(got) != 42 {
		t.Errorf("not a table of 42: %d", len(got))
	}
}

type addCase struct {
	what string
	ops  []impl.Op
	add  impl.Op
	code int
	want []impl.Op
}

func wantAdded(t *testing.T, cases []addCase) {
	t.Helper()
	for _, c := range cases {
		got, code := impl.AddOp(c.ops, c.add.Pri, c.add.Type, c.add.Name)
		if code != c.code || showOps(got) != showOps(c.want) {
			t.Errorf("%s: code %d, %s\nwant %d, %s", c.what, code, showOps(got), c.code, showOps(c.want))
		}
		if code == impl.CodeOK && !impl.ValidOps(got) {
			t.Errorf("%s: the answer is not a table", c.what)
		}
	}
}

func TestAddOp(t *testing.T) {
	base := []impl.Op{comma(), op(200, "fy", "m"), op(500, "yfx", "m"), op(100, "xf", "p")}
	wantAdded(t, []addCase{
		{"first", base, op(700, "xfx", "+"), 0, sortedTable(append(base, op(700, "xfx", "+"))...)},
		{"in the middle", base, op(1200, "fx", "l"), 0, sortedTable(append(base, op(1200, "fx", "l"))...)},
		{"last", base, op(1, "yf", "z"), 0, append(copyOps(base), op(1, "yf", "z"))},
		{"a prefix one beside a postfix one", base, op(5, "fx", "p"), 0,
			[]impl.Op{comma(), op(200, "fy", "m"), op(500, "yfx", "m"), op(5, "fx", "p"), op(100, "xf", "p")}},
		{"a prefix one in place of a prefix one", base, op(1, "fx", "m"), 0,
			[]impl.Op{comma(), op(1, "fx", "m"), op(500, "yfx", "m"), op(100, "xf", "p")}},
		{"an infix one in place of an infix one", base, op(9, "xfy", "m"), 0,
			[]impl.Op{comma(), op(200, "fy", "m"), op(9, "xfy", "m"), op(100, "xf", "p")}},
		{"a postfix one in place of a postfix one", base, op(1200, "yf", "p"), 0,
			[]impl.Op{comma(), op(200, "fy", "m"), op(500, "yfx", "m"), op(1200, "yf", "p")}},
		{"itself", base, op(100, "xf", "p"), 0, base},
		{"a prefix one gone", base, op(0, "fx", "m"), 0, []impl.Op{comma(), op(500, "yfx", "m"), op(100, "xf", "p")}},
		{"an infix one gone", base, op(0, "xfx", "m"), 0, []impl.Op{comma(), op(200, "fy", "m"), op(100, "xf", "p")}},
		{"a postfix one gone", base, op(0, "yf", "p"), 0, base[:3]},
		{"a prefix one that was not there", base, op(0, "fy", "p"), 0, base},
		{"a name that was not there", base, op(0, "xfx", "none"), 0, base},
		{"a longest name", base[:1], op(8, "xfx", strings.Repeat("n", impl.MaxAtom)), 0,
			[]impl.Op{comma(), op(8, "xfx", strings.Repeat("n", impl.MaxAtom))}},
	})
}

func TestAddOpBad(t *testing.T) {
	good := []impl.Op{comma()}
	a := func(pri int, typ int) impl.Op { return impl.Op{Name: []byte("a"), Pri: pri, Type: typ} }
	wantAdded(t, []addCase{
		{"no name", good, op(1, "xfx", ""), impl.CodeBad, nil},
		{"a name too long", good, op(1, "xfx", strings.Repeat("n", impl.MaxAtom+1)), impl.CodeBad, nil},
		{"pri -1", good, a(-1, 0), impl.CodeBad, nil}, {"pri 1201", good, a(1201, 0), impl.CodeBad, nil},
		{"a least pri", good, a(math.MinInt, 0), impl.CodeBad, nil}, {"a greatest pri", good, a(math.MaxInt, 0), impl.CodeBad, nil},
		{"type -1", good, a(1, -1), impl.CodeBad, nil}, {"type 7", good, a(1, 7), impl.CodeBad, nil},
		{"a least type", good, a(1, math.MinInt), impl.CodeBad, nil}, {"a greatest type", good, a(1, math.MaxInt), impl.CodeBad, nil},
		{"pri 0 and type 7", good, a(0, 7), impl.CodeBad, nil},
	})
	for i, ops := range badTables() {
		if got, code := impl.AddOp(ops, 1, 0, []byte("new")); code != impl.CodeBad || len(got) != 0 {
			t.Errorf("bad table %d: code %d, %s", i, code, showOps(got))
		}
	}
}

func TestAddOpFail(t *testing.T) {
	ops := []impl.Op{comma(), op(1, "fy", "i"), op(1, "xfy", "i"), op(1, "fx", "p"), op(1, "yf", "p")}
	for _, name := range []string{",", "[]", "{}", "|"} {
		for _, typ := range opTypes {
			for _, pri := range []int{0, 1, 1000, 1200} {
				wantAdded(t, []addCase{{name + " " + typ, ops, op(pri, typ, name), impl.CodeFail, nil}})
			}
		}
	}
	for _, pri := range []int{0, 1, 1200} {
		for _, typ := range []string{"xf", "yf"} {
			wantAdded(t, []addCase{{"infix and " + typ, ops, op(pri, typ, "i"), impl.CodeFail, nil}})
		}
		for _, typ := range []string{"xfx", "xfy", "yfx"} {
			wantAdded(t, []addCase{{"postfix and " + typ, ops, op(pri, typ, "p"), impl.CodeFail, nil}})
		}
	}
}

func TestAddOpLimit(t *testing.T) {
	full, nearly := fullTable(impl.MaxOps), fullTable(impl.MaxOps-1)
	for _, typ := range opTypes {
		wantAdded(t, []addCase{
			{"one too many, " + typ, full, op(1, typ, "z"), impl.CodeLimit, nil},
			{"the last that goes in, " + typ, nearly, op(1, typ, "z"), impl.CodeOK, append(copyOps(nearly), op(1, typ, "z"))},
			{"gone from a full table, " + typ, full, op(0, typ, "z"), impl.CodeOK, full},
		})
	}
	replaced := copyOps(full)
	replaced[5] = op(17, "yfx", string(full[5].Name))
	wantAdded(t, []addCase{
		{"replaced in a full table", full, replaced[5], impl.CodeOK, replaced},
		{"beside another in a full table", full, op(17, "fy", string(full[5].Name)), impl.CodeLimit, nil},
	})
}

// Bad arguments are seen before names that may not be, and these before the bound.
func TestAddOpOrder(t *testing.T) {
	full := fullTable(impl.MaxOps)
	name := string(full[3].Name)
	wantAdded(t, []addCase{
		{"a bad table and a name that may not be", nil, op(1, "xfx", "|"), impl.CodeBad, nil},
		{"a bad pri and a name that may not be", full, op(1201, "xfx", ","), impl.CodeBad, nil},
		{"a bad type and a name that may not be", full, impl.Op{Name: []byte("[]"), Pri: 1, Type: 7}, impl.CodeBad, nil},
		{"a bad pri and another sort", full, op(-1, "xf", name), impl.CodeBad, nil},
		{"a name that may not be and a full table", full, op(1, "xfx", "{}"), impl.CodeFail, nil},
		{"another sort and a full table", full, op(1, "xf", name), impl.CodeFail, nil},
		{"a bad type and a full table", full, impl.Op{Name: []byte("z"), Pri: 1, Type: -1}, impl.CodeBad, nil},
	})
}

// refAdd takes the operator of the same sort out and puts the new one in.
func refAdd(ops []impl.Op, add impl.Op) ([]impl.Op, int) {
	isPrefix := func(o impl.Op) bool { return o.Type == impl.OpFX || o.Type == impl.OpFY }
	isPostfix := func(o impl.Op) bool { return o.Type == impl.OpXF || o.Type == impl.OpYF }
	var rest []impl.Op
	for _, o := range ops {
		if string(o.Name) != string(add.Name) || isPrefix(o) != isPrefix(add) {
			rest = append(rest, o)
		} else if isPostfix(o) != isPostfix(add) {
			return nil, impl.CodeFail
		}
	}
	if add.Pri > 0 {
		rest = append(rest, add)
	}
	if len(rest) > 200 {
		return nil, impl.CodeLimit
	}
	return sortedTable(rest...), impl.CodeOK
}

func TestAddOpAgainstReference(t *testing.T) {
	d := dice(32)
	ops := impl.DefaultOps()
	codes := map[int]int{}
	for i := range 4000 {
		letters := "abcdefghijkl"
		name := string([]byte{letters[d.below(12)], letters[d.below(12)]})
		add := impl.Op{Name: []byte(name), Pri: 1 + d.below(1200), Type: d.below(7)}
		if d.below(5) == 0 {
			add.Pri = 0
		}
		want, wantCode := refAdd(ops, add)
		got, code := impl.AddOp(ops, add.Pri, add.Type, add.Name)
		if code != wantCode || showOps(got) != showOps(want) {
			t.Fatalf("step %d: %s: code %d, want %d", i, showOps([]impl.Op{add}), code, wantCode)
		}
		codes[code]++
		if code == impl.CodeOK {
			ops = got
			if !impl.ValidOps(ops) {
				t.Fatalf("step %d: %s: not a table", i, showOps([]impl.Op{add}))
			}
		}
	}
	for _, code := range []int{impl.CodeOK, impl.CodeFail, impl.CodeLimit} {
		if codes[code] < 20 {
			t.Errorf("code %d came up %d times", code, codes[code])
		}
	}
}
