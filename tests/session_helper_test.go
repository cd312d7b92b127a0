package tests

import (
	"fmt"
	"slices"
	"strings"
	"testing"

	"loop.example/s00095/impl"
)

// consulted is the program of a text, and its table.
func consulted(t *testing.T, src string) (impl.Program, []impl.Op) {
	t.Helper()
	p, ops, code, at := impl.Consult([]byte(src))
	if code != impl.CodeOK || at != 0 {
		t.Fatalf("%.300q: %d@%d", src, code, at)
	}
	return p, ops
}

// wantConsulted asks for a program and the operators that a text adds.
func wantConsulted(t *testing.T, src string, want impl.Program, ops []impl.Op) {
	t.Helper()
	p, table := consulted(t, src)
	wantProgram(t, src, p, want)
	if showOps(table) != showOps(ops) || !impl.ValidOps(table) || !impl.ValidProgram(p) {
		t.Errorf("%.200q:\n got table %s\nwant %s", src, showOps(table), showOps(ops))
	}
}

// wantNotConsulted asks for a code, an offset and nothing beside them.
func wantNotConsulted(t *testing.T, src string, code int, at int) {
	t.Helper()
	p, ops, gotCode, gotAt := impl.Consult([]byte(src))
	if gotCode != code || gotAt != at || !isZeroProgram(p) || len(ops) != 0 {
		t.Errorf("%.200q: %d@%d, want %d@%d; %d predicates, %d goals, %d operators", src, gotCode, gotAt, code, at, len(p.Preds), len(p.Goals), len(ops))
	}
}

// talks is a session: a program, a query without its end, how many replies there are, and the lines that are shown.
type talks struct {
	program string
	query   string
	replies int
	want    string
}

// wantTalks takes the end of the last line as said.
func wantTalks(t *testing.T, cases []talks) {
	t.Helper()
	for _, c := range cases {
		if got := string(impl.Session([]byte(c.program), []byte(c.query+" ."), c.replies, 50000)); got != c.want+"\n" {
			t.Errorf("%.300s ?- %.300s, %d replies:\n got %.700q\nwant %.700q", c.program, c.query, c.replies, got, c.want+"\n")
		}
	}
}

// priorityOf is that of the operator with which a term is written, 0 for none.
func priorityOf(ops []impl.Op, x []impl.Cell) int {
	name, arity := string(x[0].Text), x[0].N
	if x[0].Kind != impl.TermComp || name == "." && arity == 2 {
		return 0
	}
	sorts := map[int][]string{1: {"fy", "fx", "xf", "yf"}, 2: {"xfx", "xfy", "yfx"}}[arity]
	// Of one name a prefix operator stands before a postfix one.
	for _, o := range ops {
		if string(o.Name) == name && slices.Contains(sorts, opTypes[o.Type]) {
			return o.Pri
		}
	}
	return 0
}

// refAnswer is the text of an answer, by the text that a term has alone.
func refAnswer(ops []impl.Op, names [][]byte, terms [][]impl.Cell) string {
	var all []string
	for i, name := range names {
		if len(name) == 0 {
			continue
		}
		text := string(impl.WriteTerm(ops, terms[i], nil, true))
		if priorityOf(ops, terms[i]) > 699 {
			text = "(" + text + ")"
		}
		all = append(all, string(name)+" = "+text)
	}
	if len(all) == 0 {
		return "true"
	}
	return strings.Join(all, ",\n")
}

// refQuery is a query behind goals, each with variables that stand nowhere else.
func refQuery(goals [][]impl.Cell, query []impl.Cell) []impl.Cell {
	whole := copyTerm(query)
	used := len(impl.TermVars(query))
	for _, goal := range slices.Backward(goals) {
		own := copyTerm(goal)
		for i := range own {
			if own[i].Kind == impl.TermVar {
				own[i].N += used
			}
		}
		used += len(impl.TermVars(goal))
		whole = compTerm(",", compTerm("once", own), whole)
	}
	return whole
}

// asked is a query of a program as a session asks it.
type asked struct {
	program impl.Program
	ops     []impl.Op
	query   []impl.Cell
	names   [][]byte
}

// askedOf takes a query without its end.
func askedOf(t *testing.T, program string, query string) asked {
	t.Helper()
	return askedText(t, program, query+" .")
}

func askedText(t *testing.T, program string, query string) asked {
	t.Helper()
	clauses, ops, code, at := impl.ReadClauses(impl.DefaultOps(), []byte(program))
	if code != impl.CodeOK {
		t.Fatalf("%.300s: %d@%d", program, code, at)
	}
	p, code, at := impl.BuildProgram(clauses)
	if code != impl.CodeOK {
		t.Fatalf("%.300s: %d@%d", program, code, at)
	}
	clause, code, at := impl.ReadTerm(ops, []byte(query))
	if code != impl.CodeOK {
		t.Fatalf("%.300s: %d@%d", query, code, at)
	}
	return asked{program: p, ops: ops, query: refQuery(p.Goals, clause.Term), names: clause.Names}
}

// refSession is the text of a session whose query ended so.
func (a asked) refSession(o impl.Outcome, replies int) string {
	var text strings.Builder
	show := func(format string, parts ...any) { fmt.Fprintf(&text, format+"\n", parts...) }
	written := func(out []byte) {
		if len(out) > 0 {
			show("%s", strings.TrimSuffix(string(out), "\n"))
		}
	}
	shown := 0
	for i, answer := range o.Answers {
		written(o.Out[shown:answer.At])
		shown = answer.At
		terms := answer.Terms[len(answer.Terms)-len(a.names):]
		show("%s%s", refAnswer(a.ops, a.names, terms), map[bool]string{true: " ;", false: "."}[i < replies])
	}
	if o.Code == impl.CodeMore {
		return text.String()
	}
	written(o.Out[shown:])
	switch o.Code {
	case impl.CodeOK:
		show("false.")
	case impl.CodeError:
		show("error: %s", impl.WriteTerm(a.ops, o.Ball, nil, true))
	case impl.CodeBad, impl.CodeLimit:
		show("bounds.")
	default:
		show("%s.", codeWords[o.Code])
	}
	return text.String()
}
