package tests

import (
	"bytes"
	"fmt"
	"testing"

	"loop.example/s00095/impl"
)

func memoryTexts() []string {
	return []string{
		"", "a.", "f(X,Y,X,_,name,name,\"str\",[item|Rest]) :- X = 'quoted name', - 1 ; a|b.", "X.", "_.", "p(X). p(X). q(Name,_,Name). name.",
		":- op(700,xfx,likes). a likes B. B likes a. :- op(0,xfx,likes).", ":- op(200,fy,[new,m]). new m name. new X.", "a b.", "a. 'b", ":- op(1,2,3).",
		"a. b. c", "f(" + argList(30) + ").",
	}
}

// answerOf is all that the functions of chapter 4 answer for one text.
type answerOf struct {
	term    impl.Clause
	clauses []impl.Clause
	table   []impl.Op
	codes   [4]int
}

func readBoth(ops []impl.Op, src []byte) answerOf {
	var a answerOf
	a.term, a.codes[0], a.codes[1] = impl.ReadTerm(ops, src)
	a.clauses, a.table, a.codes[2], a.codes[3] = impl.ReadClauses(ops, src)
	return a
}

func (a answerOf) show() string {
	return fmt.Sprint(a.codes) + showClauses(append([]impl.Clause{a.term}, a.clauses...)) + "\n" + showOps(a.table)
}

// overwriteAll turns all that an answer holds, the spare room of its lists too.
func (a answerOf) overwriteAll() {
	clauses := append([]impl.Clause{a.term}, a.clauses[:cap(a.clauses)]...)
	for i, c := range clauses {
		overwriteCells(c.Term)
		for _, name := range c.Names[:cap(c.Names)] {
			overwrite(name)
		}
		if i > 0 {
			a.clauses[:cap(a.clauses)][i-1].At += 7000
		}
	}
	overwriteOps(a.table)
}

func TestReadArgumentsStay(t *testing.T) {
	for _, ops := range memoryTables() {
		for _, text := range memoryTexts() {
			table, opsUntouched := lendOps(ops)
			src, srcUntouched := roomy(text)
			answer := readBoth(table, src)
			before := answer.show()
			if !opsUntouched() || !srcUntouched() {
				t.Errorf("%q: an argument is written into", text)
			}
			answer.overwriteAll()
			if !opsUntouched() || !srcUntouched() {
				t.Errorf("%q: an answer shares memory with an argument", text)
			}
			if again := readBoth(table, src); again.show() != before {
				t.Errorf("%q: another answer the second time", text)
			}
		}
	}
}

func TestReadKeepsNoArgument(t *testing.T) {
	for _, ops := range memoryTables() {
		for _, text := range memoryTexts() {
			table, src := copyOps(ops), []byte(text)
			answer := readBoth(table, src)
			before := answer.show()
			overwriteOps(table)
			overwrite(src)
			if answer.show() != before {
				t.Errorf("%q: an answer changes with an argument", text)
			}
		}
	}
}

func copyClauses(clauses []impl.Clause) []impl.Clause {
	var out []impl.Clause
	for _, c := range clauses {
		next := impl.Clause{Term: copyTerm(c.Term), At: c.At}
		for _, name := range c.Names {
			next.Names = append(next.Names, bytes.Clone(name))
		}
		out = append(out, next)
	}
	return out
}

// parts are all lists of bytes in clauses and tables, in one order.
func parts(clauses []impl.Clause, ops []impl.Op) [][]byte {
	var all [][]byte
	for _, c := range clauses {
		for _, cell := range c.Term {
			all = append(all, cell.Text)
		}
		all = append(all, c.Names...)
	}
	for _, o := range ops {
		all = append(all, o.Name)
	}
	return all
}

// wantUnsharedParts overwrites the parts of an answer one after the other, and asks that no other changes.
func wantUnsharedParts(t *testing.T, what string, clauses []impl.Clause, ops []impl.Op) {
	t.Helper()
	expected, expectedOps := copyClauses(clauses), copyOps(ops)
	for i, part := range parts(clauses, ops) {
		for k, b := range part {
			parts(expected, expectedOps)[i][k] = b ^ 0xff
		}
		overwrite(part)
		if showClauses(clauses) != showClauses(expected) || showOps(ops) != showOps(expectedOps) {
			t.Errorf("%s: the text of part %d is shared", what, i)
			return
		}
	}
	for i := range clauses {
		overwriteCells(clauses[i].Term)
		names := clauses[i].Names[:cap(clauses[i].Names)]
		for k := range names {
			names[k] = []byte("other")
		}
		if showClauses(clauses[i+1:]) != showClauses(expected[i+1:]) || showOps(ops) != showOps(expectedOps) {
			t.Errorf("%s: a list of clause %d is shared", what, i)
			return
		}
	}
}

func TestReadAnswersAreUnshared(t *testing.T) {
	for _, ops := range memoryTables() {
		for _, text := range memoryTexts() {
			answer := readBoth(ops, []byte(text))
			wantUnsharedParts(t, text, []impl.Clause{answer.term}, nil)
			wantUnsharedParts(t, text, answer.clauses, answer.table)
		}
	}
}
