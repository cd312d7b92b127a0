package tests

import (
	"fmt"
	"strings"
	"testing"

	"loop.example/s00095/impl"
)

// refReader is a second reading of chapter 4.1: it takes tokens away as cells come, and panics where reading stops.
type refReader struct {
	refTable
	toks  []impl.Token
	size  int
	vars  map[string]int
	names [][]byte
}

type refStop struct{ at int }

// refRead answers what ReadTerm should.
func refRead(ops []impl.Op, src []byte) (clause impl.Clause, code int, at int) {
	toks, code, at := impl.Lex(src)
	if code != impl.CodeOK {
		return impl.Clause{}, code, at
	}
	defer func() {
		if stop, ok := recover().(refStop); ok {
			clause, code, at = impl.Clause{}, impl.CodeSyntax, stop.at
		}
	}()
	r := refReader{refTableOf(ops), toks, len(src), map[string]int{}, nil}
	cells, _ := r.read(1200)
	if tok := r.take(); tok.Kind != impl.TokEnd {
		panic(refStop{tok.At})
	}
	if len(r.toks) > 0 {
		panic(refStop{r.toks[0].At})
	}
	if !impl.ValidTerm(cells) {
		return impl.Clause{}, impl.CodeLimit, 0
	}
	return impl.Clause{Term: cells, Names: r.names}, impl.CodeOK, 0
}

func (r *refReader) peek(n int) impl.Token {
	if n < len(r.toks) {
		return r.toks[n]
	}
	return impl.Token{At: r.size}
}

func (r *refReader) take() impl.Token {
	tok := r.peek(0)
	r.toks = r.toks[min(1, len(r.toks)):]
	return tok
}

func (r *refReader) isPunct(n int, text string) bool {
	return r.peek(n).Kind == impl.TokPunct && string(r.peek(n).Text) == text
}

func (r *refReader) must(text string) {
	if !r.isPunct(0, text) {
		panic(refStop{r.peek(0).At})
	}
	r.take()
}

func (r *refReader) read(p int) ([]impl.Cell, int) {
	left, priority := r.start(p)
	for {
		tok := r.peek(0)
		name := string(tok.Text)
		infix, isInfix := r.infix[name]
		postfix, isPostfix := r.postfix[name]
		if tok.Kind == impl.TokPunct && name == "|" {
			infix, isInfix, name = op(1100, "xfy", ";"), true, ";"
		} else if tok.Kind != impl.TokAtom && !r.isPunct(0, ",") {
			return left, priority
		}
		switch {
		case isInfix && infix.Pri <= p && priority <= leftGives(infix):
			r.take()
			right, _ := r.read(rightGives(infix))
			left, priority = compTerm(name, left, right), infix.Pri
		case isPostfix && postfix.Pri <= p && priority <= leftGives(postfix):
			r.take()
			left, priority = compTerm(name, left), postfix.Pri
		default:
			return left, priority
		}
	}
}

func (r *refReader) start(p int) ([]impl.Cell, int) {
	tok := r.take()
	switch tok.Kind {
	case impl.TokInt:
		return intTerm(tok.N), 0
	case impl.TokVar:
		return r.variable(string(tok.Text)), 0
	case impl.TokString:
		var items [][]impl.Cell
		for _, b := range tok.Text {
			items = append(items, intTerm(int(b)))
		}
		return listTerm(items...), 0
	case impl.TokCall:
		return r.closed(")"), 0
	case impl.TokPunct:
		return r.bracket(tok), 0
	case impl.TokAtom:
		return r.atom(tok, p)
	}
	panic(refStop{tok.At})
}

func (r *refReader) variable(name string) []impl.Cell {
	key := name
	if name == "_" {
		key, name = fmt.Sprint("_ ", len(r.vars)), ""
	}
	if _, known := r.vars[key]; !known {
		r.vars[key] = len(r.vars)
		r.names = append(r.names, []byte(name))
	}
	return varTerm(r.vars[key])
}

func (r *refReader) closed(by string) []impl.Cell {
	inside, _ := r.read(1200)
	r.must(by)
	return inside
}

func (r *refReader) arguments() [][]impl.Cell {
	first, _ := r.read(999)
	args := [][]impl.Cell{first}
	for r.isPunct(0, ",") {
		r.take()
		next, _ := r.read(999)
		args = append(args, next)
	}
	return args
}

func (r *refReader) bracket(tok impl.Token) []impl.Cell {
	text := string(tok.Text)
	switch {
	case text == "(":
		return r.closed(")")
	case text == "{" && r.isPunct(0, "}"):
		r.take()
		return atomTerm("{}")
	case text == "{":
		return compTerm("{}", r.closed("}"))
	case text == "[" && r.isPunct(0, "]"):
		r.take()
		return atomTerm("[]")
	case text == "[":
		items, end := r.arguments(), atomTerm("[]")
		if r.isPunct(0, "|") {
			r.take()
			end, _ = r.read(999)
		}
		r.must("]")
		return listEnding(end, items...)
	}
	panic(refStop{tok.At})
}

func (r *refReader) isNegative(tok impl.Token, next impl.Token) bool {
	return string(tok.Text) == "-" && tok.Kind == impl.TokAtom && next.Kind == impl.TokInt && tok.At+tok.Len == next.At
}

func (r *refReader) atom(tok impl.Token, p int) ([]impl.Cell, int) {
	name := string(tok.Text)
	if r.peek(0).Kind == impl.TokCall {
		r.take()
		args := r.arguments()
		r.must(")")
		return compTerm(name, args...), 0
	}
	if r.isNegative(tok, r.peek(0)) {
		return intTerm(-r.take().N), 0
	}
	if o, ok := r.prefix[name]; ok && o.Pri <= p && r.canBegin() {
		operand, _ := r.read(rightGives(o))
		return compTerm(name, operand), o.Pri
	}
	return atomTerm(name), 0
}

func (r *refReader) canBegin() bool {
	tok := r.peek(0)
	switch tok.Kind {
	case impl.TokInt, impl.TokVar, impl.TokString, impl.TokCall:
		return true
	case impl.TokPunct:
		return strings.Contains("([{", string(tok.Text))
	case impl.TokAtom:
		name := string(tok.Text)
		_, isInfix := r.infix[name]
		_, isPostfix := r.postfix[name]
		_, isPrefix := r.prefix[name]
		return !isInfix && !isPostfix || isPrefix || r.peek(1).Kind == impl.TokCall || r.isNegative(tok, r.peek(1))
	}
	return false
}

// checkRead answers whether a term was read.
func checkRead(t *testing.T, ops []impl.Op, src string) bool {
	t.Helper()
	clause, code, at := impl.ReadTerm(ops, []byte(src))
	want, wantCode, wantAt := refRead(ops, []byte(src))
	if code != wantCode || at != wantAt || showClause(clause) != showClause(want) {
		t.Fatalf("%q\nwith %s:\n got %d at %d, %s\nwant %d at %d, %s", src, showOps(ops), code, at, showClause(clause), wantCode, wantAt, showClause(want))
	}
	return code == impl.CodeOK
}

// shortTables have operators of all sorts among few names.
func shortTables() [][]impl.Op {
	return [][]impl.Op{
		{comma()}, impl.DefaultOps(), {comma(), op(200, "fy", "-"), op(500, "yfx", "-"), op(1000, "xf", "a")},
		{comma(), op(1100, "xfx", "-"), op(999, "fx", "a")}, {comma(), op(1000, "fx", "-"), op(1200, "yf", "-"), op(500, "fy", "a"), op(500, "xfy", "a")},
	}
}

// All texts of at most three pieces and some of four, each with an end behind it and without.
func TestReadShortTexts(t *testing.T) {
	pieces := []string{"a", "a ", "1", "-", "- ", "(", ")", "[", "]", "{", "}", ",", "|", "X", "_", ". "}
	for _, ops := range shortTables() {
		texts := []string{""}
		for range 4 {
			var longer []string
			for _, text := range texts {
				for _, piece := range pieces {
					longer = append(longer, text+piece)
				}
			}
			if len(longer) > 5000 {
				longer = some(longer)
			}
			for _, text := range longer {
				checkRead(t, ops, text)
				checkRead(t, ops, text+" .")
			}
			texts = longer
		}
	}
}

// some leaves texts out in steps that meet every piece at every place.
func some(texts []string) []string {
	var out []string
	for i := 0; i < len(texts); i += 19 {
		out = append(out, texts[i])
	}
	return out
}

// Tokens in a row, most of them names of operators, with blanks between them or none.
func TestReadRandomTokens(t *testing.T) {
	d := dice(41)
	pieces := []string{"1", "0'a", "X", "Y", "_", "\"ab\"", "(", "(", ")", ")", "[", "]", "{", "}", ",", "|", "c", "f(", "-1", "'- '", "','", "'|'", "%c\n"}
	good := 0
	for range 8000 {
		ops := randomOps(t, &d)
		var text strings.Builder
		for range 1 + d.below(9) {
			if d.below(2) == 0 {
				text.WriteString(pieces[d.below(len(pieces))])
			} else {
				text.Write(impl.QuoteAtom([]byte(operatorNames[d.below(len(operatorNames))])))
			}
			if d.below(3) > 0 {
				text.WriteString(" ")
			}
		}
		if checkRead(t, ops, text.String()+" .") {
			good++
		}
	}
	if good < 500 {
		t.Errorf("only %d texts are terms", good)
	}
}

// Written terms, and what becomes of them when a token is lost, doubled or put in place of another.
func TestReadChangedTexts(t *testing.T) {
	d := dice(42)
	for range 3000 {
		ops := randomOps(t, &d)
		text := append(impl.WriteTerm(ops, randomOperation(&d, 4), nil, true), " ."...)
		checkRead(t, ops, string(text))
		toks, _, _ := impl.Lex(text)
		if len(toks) == 0 {
			continue
		}
		a, b := toks[d.below(len(toks))], toks[d.below(len(toks))]
		token := string(text[b.At : b.At+b.Len])
		checkRead(t, ops, string(text[:a.At])+string(text[a.At+a.Len:]))
		checkRead(t, ops, string(text[:a.At])+" "+token+" "+string(text[a.At:]))
		checkRead(t, ops, string(text[:a.At])+token+string(text[a.At+a.Len:]))
	}
}

func wantReadAgain(t *testing.T, ops []impl.Op, x []impl.Cell) {
	t.Helper()
	text := impl.WriteTerm(ops, x, nil, true)
	if len(text)+2 > impl.MaxSource {
		return
	}
	clause, code, at := impl.ReadTerm(ops, append(text, " ."...))
	if want := impl.Renumber(x); code != impl.CodeOK || at != 0 || showCells(clause.Term) != showCells(want) {
		t.Fatalf("%.2000s\nwith %s:\n text %.2000q\n code %d at %d, read %.2000s", showCells(want), showOps(ops), text, code, at, showCells(clause.Term))
	}
}

// What is written with quotes is read as the same term.
func TestWrittenIsReadAgain(t *testing.T) {
	d := dice(34)
	for range 6000 {
		wantReadAgain(t, randomOps(t, &d), randomOperation(&d, 5))
		wantReadAgain(t, impl.DefaultOps(), randomTerm(&d, 4))
	}
	for _, ops := range goodTables() {
		for _, x := range validTerms() {
			wantReadAgain(t, ops, x)
		}
	}
}

// All terms of one operator within another, with each pair of types and each order of their priorities.
func TestWrittenPairsAreReadAgain(t *testing.T) {
	inners := []string{"y/1 1", "y/1 a", "y/2 1 -1", "y", "-1", "1", "y/2 y/1 a b", "y/2 a y/1 b"}
	outers := []string{"x/1 ?", "x/2 ? 1", "x/2 1 ?", "x/2 ? ?", "x/1 x/1 ?", "x/2 x/1 ? x/1 ?", "f/1 ?", "./2 ? ?", "{}/1 ?"}
	for _, first := range opTypes {
		for _, second := range opTypes {
			for _, pri := range []int{499, 500, 501, 1200} {
				for _, names := range [][2]string{{"-", "+"}, {"+", "-"}, {"u", "v"}, {"!", ";"}, {"-", "-"}} {
					ops, code := impl.AddOp([]impl.Op{comma()}, 500, op(0, first, "").Type, []byte(names[0]))
					both, failed := impl.AddOp(ops, pri, op(0, second, "").Type, []byte(names[1]))
					if code != impl.CodeOK || failed != impl.CodeOK {
						continue
					}
					for _, outer := range outers {
						for _, inner := range inners {
							words := strings.ReplaceAll(outer, "?", inner)
							wantReadAgain(t, both, preorder(strings.NewReplacer("x", names[0], "y", names[1]).Replace(words)))
						}
					}
				}
			}
		}
	}
}

// Terms whose texts, with a space and an end, have MaxSource bytes, and one less.
func TestWrittenLongTexts(t *testing.T) {
	item := strings.Repeat("z", 99)
	for size := impl.MaxSource - 3; size <= impl.MaxSource; size++ {
		items := manyItems(99, atomTerm(item))
		// 99 items of 99 bytes with their commas, and brackets around them; one more item fills the text.
		rest := size - len(" .") - len("[]") - 99*100
		items = append(items, atomTerm(item[:rest]))
		x := listTerm(items...)
		if text := impl.WriteTerm(impl.DefaultOps(), x, nil, true); len(text)+2 != size {
			t.Fatalf("%d bytes, want %d", len(text)+2, size)
		}
		wantReadAgain(t, impl.DefaultOps(), x)
	}
}

// refClauses reads the text between two ends by ReadTerm, with a table that it keeps by AddOp.
func refClauses(ops []impl.Op, src string) (clauses []impl.Clause, table []impl.Op, code int, at int) {
	toks, code, at := impl.Lex([]byte(src))
	if code != impl.CodeOK {
		return nil, nil, code, at
	}
	for len(toks) > 0 {
		first, last := toks[0].At, len(src)
		for len(toks) > 0 {
			tok := toks[0]
			toks = toks[1:]
			if tok.Kind == impl.TokEnd {
				last = tok.At + 1
				break
			}
		}
		clause, code, at := impl.ReadTerm(ops, []byte(src[first:last]))
		if code == impl.CodeSyntax && at == last-first {
			return nil, nil, code, len(src)
		}
		if code != impl.CodeOK {
			return nil, nil, code, first + at
		}
		next, isOp, ok := refAddOps(ops, clause.Term)
		switch {
		case isOp && !ok:
			return nil, nil, impl.CodeFail, first
		case isOp:
			ops = next
		case len(clauses) == impl.MaxClauses:
			return nil, nil, impl.CodeLimit, first
		default:
			clause.At = first
			clauses = append(clauses, clause)
		}
	}
	return clauses, ops, impl.CodeOK, 0
}

// refAddOps answers a table, whether the term is `:- op(P, T, N)`, and whether its arguments are as they should be.
func refAddOps(ops []impl.Op, cells []impl.Cell) ([]impl.Op, bool, bool) {
	n, _ := readNode(cells)
	if n.kind != impl.TermComp || n.text != ":-" || len(n.args) != 1 {
		return nil, false, false
	}
	goal := n.args[0]
	if goal.kind != impl.TermComp || goal.text != "op" || len(goal.args) != 3 {
		return nil, false, false
	}
	pri, typ, names := goal.args[0], goal.args[1], []node{goal.args[2]}
	if list, code := impl.ListItems(cells[4:]); code == impl.CodeOK {
		names = nil
		for _, item := range list {
			name, _ := readNode(item)
			names = append(names, name)
		}
	}
	typeAt := op(0, typ.text, "").Type
	if pri.kind != impl.TermInt || pri.n < 0 || pri.n > 1200 || typ.kind != impl.TermAtom || typeAt < 0 {
		return nil, true, false
	}
	for _, name := range names {
		next, code := impl.AddOp(ops, pri.n, typeAt, []byte(name.text))
		if name.kind != impl.TermAtom || code != impl.CodeOK {
			return nil, true, false
		}
		ops = next
	}
	return ops, true, true
}

// randomSentence is a term with its end, often one that adds an operator, now and then something else.
func randomSentence(d *dice, ops []impl.Op) string {
	pris := []string{"0", "1", "200", "500", "700", "999", "1000", "1200", "1201", "P"}
	types := append([]string{"xxx"}, opTypes...)
	name := func() string { return string(impl.QuoteAtom([]byte(operatorNames[d.below(len(operatorNames))]))) }
	switch d.below(10) {
	case 0, 1, 2:
		return fmt.Sprintf(":-(op(%s,%s,(%s))).", pris[d.below(8+d.below(3))], types[1+d.below(7)], name())
	case 3:
		return fmt.Sprintf(":-(op(%s,%s,[(%s),(%s)])).", pris[d.below(8)], types[(1+d.below(70))%8], name(), name())
	case 4:
		return fmt.Sprintf("%s %s %s .", name(), name(), name())
	}
	return string(impl.WriteTerm(ops, randomOperation(d, 2), nil, true)) + " ."
}

func TestReadClausesAgainstReadTerm(t *testing.T) {
	d := dice(43)
	codes := map[int]int{}
	for range 5000 {
		ops := randomOps(t, &d)
		var text strings.Builder
		for range d.below(6) {
			text.WriteString(randomSentence(&d, ops) + []string{" ", "\n", "% c\n", "\t/* a. */"}[d.below(4)])
		}
		src := text.String()
		clauses, table, code, at := impl.ReadClauses(ops, []byte(src))
		wanted, wantTable, wantCode, wantAt := refClauses(ops, src)
		if code != wantCode || at != wantAt || showClauses(clauses) != showClauses(wanted) || showOps(table) != showOps(wantTable) {
			t.Fatalf("%q\nwith %s:\n got %d at %d, %s\nwant %d at %d, %s", src, showOps(ops), code, at, showClauses(clauses), wantCode, wantAt, showClauses(wanted))
		}
		codes[code]++
	}
	for _, code := range []int{impl.CodeOK, impl.CodeSyntax, impl.CodeFail} {
		if codes[code] < 200 {
			t.Errorf("code %d comes %d times", code, codes[code])
		}
	}
}
