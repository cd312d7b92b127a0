package tests

import (
	"fmt"
	"slices"
	"strconv"
	"strings"
	"testing"

	"loop.example/s00095/impl"
)

// insWords are the words of the instructions by their numbers, each with the letters of what it has.
var insWords = []string{
	"getvar RA", "getval RA", "getconst CA", "getstruct CA", "unifyvar R", "unifyval R", "unifyconst C", "unifyvoid",
	"putvar RA", "putval RA", "putconst CA", "putvoid A", "putstruct CR", "setvar R", "setval R", "setconst C", "setvoid",
	"allocate A", "deallocate", "call C", "execute C", "proceed", "builtin C", "level R", "mark R", "cut R",
	"fail", "stop", "uncatch", "try A", "retry A", "trust A", "switch A",
}

// insFields answers the word of an instruction and the letters of what it has.
func insFields(op int) (string, string) {
	word, fields, _ := strings.Cut(insWords[op], " ")
	return word, fields
}

// insOf reads one instruction as a listing has it, but with names as they are: an arity of 0 is that of an atom.
func insOf(line string) impl.Ins {
	words := strings.Fields(line)
	op := slices.IndexFunc(insWords, func(w string) bool { return strings.Fields(w)[0] == words[0] })
	if op < 0 {
		panic(line)
	}
	ins := impl.Ins{Op: op}
	_, fields := insFields(op)
	if len(words) != 1+len(fields) {
		panic(line)
	}
	for i, field := range fields {
		word := words[i+1]
		switch field {
		case 'R':
			ins.R = registerOf(word)
		case 'A':
			ins.A = numberBehind(word, "a")
		case 'C':
			ins.C = cellOf(word)
			if ins.C.Kind == impl.TermComp && ins.C.N == 0 {
				ins.C.Kind = impl.TermAtom
			}
		}
	}
	return ins
}

func numberBehind(word string, mark string) int {
	digits, isMarked := strings.CutPrefix(word, mark)
	n, err := strconv.Atoi(digits)
	if !isMarked || err != nil {
		panic(word)
	}
	return n
}

func registerOf(word string) int {
	if strings.HasPrefix(word, "y") {
		return -1 - numberBehind(word, "y")
	}
	return numberBehind(word, "x")
}

// codeOf reads instructions with commas between them.
func codeOf(text string) []impl.Ins {
	var all []impl.Ins
	for _, line := range strings.Split(text, ", ") {
		all = append(all, insOf(line))
	}
	return all
}

// showIns tells all that instructions hold.
func showIns(all []impl.Ins) string {
	var out []string
	for _, i := range all {
		word := fmt.Sprint(i.Op)
		if i.Op >= 0 && i.Op < len(insWords) {
			word, _ = insFields(i.Op)
		}
		out = append(out, fmt.Sprintf("%s R%d A%d C[%s] K[%s] L%v", word, i.R, i.A, showCells([]impl.Cell{i.C}), showCells(i.K), i.L))
	}
	return strings.Join(out, "\n")
}

func showProcs(procs []impl.Proc) string {
	var out []string
	for _, p := range procs {
		out = append(out, fmt.Sprintf("%q/%d %v @%d %v", p.Name, p.Arity, p.Dynamic, p.At, p.Clauses))
	}
	return strings.Join(out, "\n")
}

func showCode(c impl.Code) string {
	return showIns(c.Ins) + "\n" + showProcs(c.Procs)
}

func copyIns(all []impl.Ins) []impl.Ins {
	out := slices.Clone(all)
	for i := range out {
		out[i].C.Text = slices.Clone(out[i].C.Text)
		out[i].K = copyTerm(out[i].K)
		out[i].L = slices.Clone(out[i].L)
	}
	return out
}

func copyCode(c impl.Code) impl.Code {
	out := impl.Code{Ins: copyIns(c.Ins), Procs: slices.Clone(c.Procs)}
	for i, p := range out.Procs {
		out.Procs[i].Name, out.Procs[i].Clauses = slices.Clone(p.Name), slices.Clone(p.Clauses)
	}
	return out
}

func isZeroCode(c impl.Code) bool {
	return len(c.Ins) == 0 && len(c.Procs) == 0
}

// clauseTerm is a clause as a program writes it, its variables by their first places.
func clauseTerm(src string) []impl.Cell {
	c, code, at := impl.ReadTerm(impl.DefaultOps(), []byte(src+" ."))
	if code != impl.CodeOK {
		panic(fmt.Sprintf("%.200s: %d@%d", src, code, at))
	}
	return c.Term
}

// wantClasses asks for the classes of the variables, a letter for each: v, t or p.
func wantClasses(t *testing.T, what string, clause []impl.Cell, letters string) {
	t.Helper()
	classes, code := impl.ClassifyVars(clause)
	got := ""
	for _, class := range classes {
		if class < impl.VarVoid || class > impl.VarPerm {
			t.Errorf("%.200s: class %d", what, class)
			return
		}
		got += string("vtp"[class])
	}
	if code != impl.CodeOK || got != letters {
		t.Errorf("%.200s: %d %s, want %s", what, code, got, letters)
	}
}

// wantCompiled asks for the code of clauses, with all that its instructions hold.
func wantCompiled(t *testing.T, cases map[string]string) {
	t.Helper()
	for src, want := range cases {
		wantIns(t, src, clauseTerm(src), codeOf(want))
	}
}

func wantIns(t *testing.T, what string, clause []impl.Cell, want []impl.Ins) {
	t.Helper()
	ins, code := impl.CompileClause(clause)
	if code != impl.CodeOK || showIns(ins) != showIns(want) {
		t.Errorf("%.200s: %d\n got\n%.2000s\nwant\n%.2000s", what, code, showIns(ins), showIns(want))
	}
}

// wantNoClause asks for a code, and nothing beside it, of both functions if it is CodeBad.
func wantNoClause(t *testing.T, what string, clause []impl.Cell, want int) {
	t.Helper()
	if ins, code := impl.CompileClause(clause); code != want || len(ins) != 0 {
		t.Errorf("CompileClause of %.200s: %d with %d instructions, want %d", what, code, len(ins), want)
	}
	classes, code := impl.ClassifyVars(clause)
	if want == impl.CodeBad && (code != want || len(classes) != 0) {
		t.Errorf("ClassifyVars of %.200s: %d with %d classes, want %d", what, code, len(classes), want)
	}
	if want != impl.CodeBad && code != impl.CodeOK {
		t.Errorf("ClassifyVars of %.200s: %d", what, code)
	}
}

// wantNotLinked asks for a code and nothing beside it.
func wantNotLinked(t *testing.T, what string, p impl.Program, want int) {
	t.Helper()
	for _, indexed := range []bool{false, true} {
		if c, code := impl.LinkProgram(p, indexed); code != want || !isZeroCode(c) {
			t.Errorf("%.200s, indexed %v: %d with %d instructions, want %d", what, indexed, code, len(c.Ins), want)
		}
	}
}

func linked(t *testing.T, what string, p impl.Program, indexed bool) impl.Code {
	t.Helper()
	c, code := impl.LinkProgram(p, indexed)
	if code != impl.CodeOK {
		t.Fatalf("%.200s, indexed %v: %d", what, indexed, code)
	}
	return c
}

// flatProgram has the clauses of a text as they are, by their heads; all variables are by their first places.
func flatProgram(src string) impl.Program {
	var p impl.Program
	for _, c := range clausesIn(src) {
		name, arity := string(c.Term[1].Text), c.Term[1].N
		at := slices.IndexFunc(p.Preds, func(q impl.Pred) bool { return string(q.Name) == name && q.Arity == arity })
		if at < 0 {
			at = len(p.Preds)
			p.Preds = append(p.Preds, pred(name, arity))
		}
		p.Preds[at].Clauses = append(p.Preds[at].Clauses, c.Term)
	}
	return p
}
