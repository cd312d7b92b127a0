package tests

import (
	"fmt"
	"slices"
	"strings"
	"testing"

	"loop.example/s00095/impl"
)

// showClause tells all that a clause holds.
func showClause(c impl.Clause) string {
	return fmt.Sprintf("%s %q @%d", showCells(c.Term), c.Names, c.At)
}

func showClauses(clauses []impl.Clause) string {
	var out []string
	for _, c := range clauses {
		out = append(out, showClause(c))
	}
	return strings.Join(out, "\n")
}

func isZeroClause(c impl.Clause) bool {
	return len(c.Term) == 0 && len(c.Names) == 0 && c.At == 0
}

type reads struct {
	src  string // without the end
	want string // in preorder
}

// wantRead asks for terms, and for as many names as they have variables.
func wantRead(t *testing.T, ops []impl.Op, cases []reads) {
	t.Helper()
	for _, c := range cases {
		clause, code, at := impl.ReadTerm(ops, []byte(c.src+" ."))
		if code != impl.CodeOK || at != 0 || clause.At != 0 {
			t.Errorf("%.200q: code %d at %d, At %d", c.src, code, at, clause.At)
			continue
		}
		wantCells(t, c.src, clause.Term, preorder(c.want))
		if vars := impl.TermVars(clause.Term); len(vars) != len(clause.Names) {
			t.Errorf("%.200q: %d variables, names %q", c.src, len(vars), clause.Names)
		}
	}
}

// stopMark stands in a text ahead of the token at which its reading stops.
const stopMark = "¦"

func unmarked(t *testing.T, marked string) (string, int) {
	t.Helper()
	if strings.Count(marked, stopMark) != 1 {
		t.Fatalf("%q: no mark, or more than one", marked)
	}
	return strings.Replace(marked, stopMark, "", 1), strings.Index(marked, stopMark)
}

// wantStops asks for CodeSyntax at the marked places.
func wantStops(t *testing.T, ops []impl.Op, marked []string) {
	t.Helper()
	for _, text := range marked {
		src, at := unmarked(t, text)
		wantReadFault(t, ops, src, impl.CodeSyntax, at)
	}
}

func wantReadFault(t *testing.T, ops []impl.Op, src string, code int, at int) {
	t.Helper()
	clause, gotCode, gotAt := impl.ReadTerm(ops, []byte(src))
	if gotCode != code || gotAt != at || !isZeroClause(clause) {
		t.Errorf("%.200q: code %d at %d, want %d at %d; %.200s", src, gotCode, gotAt, code, at, showClause(clause))
	}
}

// found is a clause that stands where its beginning is found behind the one before it.
type found struct {
	begins string
	term   string
	names  []string
}

func foundClauses(t *testing.T, src string, all []found) []impl.Clause {
	t.Helper()
	var clauses []impl.Clause
	from := 0
	for _, f := range all {
		ahead := strings.Index(src[from:], f.begins)
		if ahead < 0 {
			t.Fatalf("%q: no %q behind %d", src, f.begins, from)
		}
		c := impl.Clause{Term: preorder(f.term), At: from + ahead}
		for _, name := range f.names {
			c.Names = append(c.Names, []byte(name))
		}
		clauses = append(clauses, c)
		from = c.At + len(f.begins)
	}
	return clauses
}

// wantClauses asks for clauses and a table.
func wantClauses(t *testing.T, ops []impl.Op, src string, want []found, table []impl.Op) {
	t.Helper()
	clauses, after, code, at := impl.ReadClauses(ops, []byte(src))
	if code != impl.CodeOK || at != 0 {
		t.Errorf("%.200q: code %d at %d", src, code, at)
		return
	}
	if showOps(after) != showOps(table) {
		t.Errorf("%.200q: table\n got %s\nwant %s", src, showOps(after), showOps(table))
	}
	expected := foundClauses(t, src, want)
	if showClauses(clauses) != showClauses(expected) {
		t.Errorf("%.200q:\n got %s\nwant %s", src, showClauses(clauses), showClauses(expected))
	}
}

func wantClausesFault(t *testing.T, ops []impl.Op, src string, code int, at int) {
	t.Helper()
	clauses, after, gotCode, gotAt := impl.ReadClauses(ops, []byte(src))
	if gotCode != code || gotAt != at || len(clauses) != 0 || len(after) != 0 {
		t.Errorf("%.200q: code %d at %d, want %d at %d; %d clauses, %d operators", src, gotCode, gotAt, code, at, len(clauses), len(after))
	}
}

// without is a table less one operator.
func without(ops []impl.Op, name string, isPrefix bool) []impl.Op {
	return slices.DeleteFunc(copyOps(ops), func(o impl.Op) bool {
		return string(o.Name) == name && isPrefix == (opPlaces[o.Type] == "prefix")
	})
}
