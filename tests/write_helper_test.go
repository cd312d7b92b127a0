package tests

import (
	"bytes"
	"fmt"
	"slices"
	"strconv"
	"strings"
	"testing"

	"loop.example/s00095/impl"
)

var (
	opTypes  = []string{"xfx", "xfy", "yfx", "fy", "fx", "xf", "yf"}
	opPlaces = []string{"other", "other", "other", "prefix", "prefix", "other", "other"}
)

func op(pri int, typ string, name string) impl.Op {
	return impl.Op{Name: []byte(name), Pri: pri, Type: slices.Index(opTypes, typ)}
}

func comma() impl.Op {
	return op(1000, "xfy", ",")
}

func showOps(ops []impl.Op) string {
	var out []string
	for _, o := range ops {
		out = append(out, fmt.Sprintf("%d:%d:%q", o.Pri, o.Type, o.Name))
	}
	return strings.Join(out, " ")
}

func copyOps(ops []impl.Op) []impl.Op {
	var out []impl.Op
	for _, o := range ops {
		out = append(out, impl.Op{Name: bytes.Clone(o.Name), Pri: o.Pri, Type: o.Type})
	}
	return out
}

// sortedTable lays operators into the order of a table, without a call of the program.
func sortedTable(ops ...impl.Op) []impl.Op {
	out := copyOps(ops)
	slices.SortFunc(out, func(a impl.Op, b impl.Op) int {
		if order := strings.Compare(string(a.Name), string(b.Name)); order != 0 {
			return order
		}
		return strings.Compare(opPlaces[b.Type], opPlaces[a.Type])
	})
	return out
}

// fullTable has so many operators, the comma among them.
func fullTable(n int) []impl.Op {
	ops := []impl.Op{comma()}
	for i := range n - 1 {
		ops = append(ops, op(1+i, "xfx", fmt.Sprintf("op%03d", i)))
	}
	return ops
}

// defaultWith is the table of DefaultOps with more operators.
func defaultWith(t *testing.T, more ...impl.Op) []impl.Op {
	t.Helper()
	ops := impl.DefaultOps()
	for _, o := range more {
		ops = mustAdd(t, ops, o)
	}
	return ops
}

func mustAdd(t *testing.T, ops []impl.Op, o impl.Op) []impl.Op {
	t.Helper()
	next, code := impl.AddOp(ops, o.Pri, o.Type, o.Name)
	if code != impl.CodeOK {
		t.Fatalf("AddOp of %s: code %d", showOps([]impl.Op{o}), code)
	}
	return next
}

// preorder makes a term of words: X0 a variable, -12 a number, f/2 a compound, others atoms. A word with double quotes
// is a name as Go writes it, perhaps with an arity behind it.
func preorder(text string) []impl.Cell {
	var cells []impl.Cell
	for _, word := range strings.Fields(text) {
		cells = append(cells, cellOf(word))
	}
	return cells
}

func cellOf(word string) impl.Cell {
	if n, err := strconv.Atoi(word); err == nil {
		return impl.Cell{Kind: impl.TermInt, N: n}
	}
	if n, err := strconv.Atoi(strings.TrimPrefix(word, "X")); err == nil {
		return impl.Cell{Kind: impl.TermVar, N: n}
	}
	name, cell := word, impl.Cell{Kind: impl.TermAtom}
	if slash := strings.LastIndex(word, "/"); slash > 0 {
		if n, err := strconv.Atoi(word[slash+1:]); err == nil {
			name, cell = word[:slash], impl.Cell{Kind: impl.TermComp, N: n}
		}
	}
	if unquoted, err := strconv.Unquote(name); err == nil {
		name = unquoted
	}
	cell.Text = []byte(name)
	return cell
}

type written struct {
	term string
	want string
}

func wantWritten(t *testing.T, ops []impl.Op, names [][]byte, quoted bool, cases []written) {
	t.Helper()
	if !impl.ValidOps(ops) {
		t.Fatalf("the table is not valid: %s", showOps(ops))
	}
	for _, c := range cases {
		x := preorder(c.term)
		if !impl.ValidTerm(x) {
			t.Errorf("%s: not a term", c.term)
		}
		if got := impl.WriteTerm(ops, x, names, quoted); string(got) != c.want {
			t.Errorf("%s:\n got %q\nwant %q", c.term, got, c.want)
		}
	}
}

// lendOps lays operators and their names amid spare ones, and answers a check that none of them was written into.
func lendOps(ops []impl.Op) ([]impl.Op, func() bool) {
	spare := impl.Op{Name: []byte("spare"), Pri: 77, Type: 78}
	var checks []func() bool
	all := []impl.Op{spare}
	for _, o := range ops {
		name, check := roomy(string(o.Name))
		checks = append(checks, check)
		all = append(all, impl.Op{Name: name, Pri: o.Pri, Type: o.Type})
	}
	all = append(all, spare, spare)
	before := showOps(all)
	return all[1 : len(ops)+1], func() bool {
		for _, check := range checks {
			if !check() {
				return false
			}
		}
		return showOps(all) == before
	}
}

func overwriteOps(ops []impl.Op) {
	ops = ops[:cap(ops)]
	for i := range ops {
		overwrite(ops[i].Name)
		ops[i].Pri, ops[i].Type = ops[i].Pri+5000, ops[i].Type+50
	}
}
