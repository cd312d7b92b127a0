package tests

import (
	"fmt"
	"strings"
	"testing"

	"loop.example/s00095/impl"
)

// refTable is a table as chapter 3.1 tells of it.
type refTable struct {
	prefix, infix, postfix map[string]impl.Op
}

func refTableOf(ops []impl.Op) refTable {
	table := refTable{map[string]impl.Op{}, map[string]impl.Op{}, map[string]impl.Op{}}
	for _, o := range ops {
		switch {
		case strings.HasPrefix(opTypes[o.Type], "f"):
			table.prefix[string(o.Name)] = o
		case strings.HasSuffix(opTypes[o.Type], "f"):
			table.postfix[string(o.Name)] = o
		default:
			table.infix[string(o.Name)] = o
		}
	}
	return table
}

func (r refTable) isOperator(name string) bool {
	_, a := r.prefix[name]
	_, b := r.infix[name]
	_, c := r.postfix[name]
	return a || b || c
}

// refGives is the priority that an operator gives the operand whose letter stands at this place of its type.
func refGives(o impl.Op, letter byte) int {
	if letter == 'y' {
		return o.Pri
	}
	return o.Pri - 1
}

func leftGives(o impl.Op) int {
	return refGives(o, opTypes[o.Type][0])
}

func rightGives(o impl.Op) int {
	return refGives(o, opTypes[o.Type][len(opTypes[o.Type])-1])
}

// refWriter is a second reading of chapter 3.2: it makes the texts of the parts first and then looks at their ends.
type refWriter struct {
	refTable
	names  [][]byte
	quoted bool
}

func (w refWriter) name(name []byte) string {
	if w.quoted {
		return string(impl.QuoteAtom(name))
	}
	return string(name)
}

func (w refWriter) text(n node, p int) string {
	switch n.kind {
	case impl.TermVar:
		if n.n < len(w.names) && len(w.names[n.n]) > 0 {
			return string(w.names[n.n])
		}
		return fmt.Sprintf("_%d", n.n)
	case impl.TermInt:
		return fmt.Sprint(n.n)
	case impl.TermAtom:
		return w.name([]byte(n.text))
	}
	if n.text == "." && len(n.args) == 2 {
		return "[" + w.text(n.args[0], 999) + w.rest(n.args[1]) + "]"
	}
	if n.text == "{}" && len(n.args) == 1 {
		return "{" + w.text(n.args[0], 1200) + "}"
	}
	if o, ok := w.operator(n); ok {
		text := w.operation(o, n.args)
		if o.Pri > p {
			return "(" + text + ")"
		}
		return text
	}
	var args []string
	for _, arg := range n.args {
		args = append(args, w.text(arg, 999))
	}
	name := w.name([]byte(n.text))
	if w.quoted && (n.text == "[]" || n.text == "{}") {
		name = "'" + n.text + "'"
	}
	return name + "(" + strings.Join(args, ",") + ")"
}

func (w refWriter) rest(n node) string {
	if n.kind == impl.TermComp && n.text == "." && len(n.args) == 2 {
		return "," + w.text(n.args[0], 999) + w.rest(n.args[1])
	}
	if n.kind == impl.TermAtom && n.text == "[]" {
		return ""
	}
	return "|" + w.text(n, 999)
}

func (w refWriter) operator(n node) (impl.Op, bool) {
	if n.kind != impl.TermComp || n.text == "." && len(n.args) == 2 {
		return impl.Op{}, false
	}
	if len(n.args) == 2 {
		o, ok := w.infix[n.text]
		return o, ok
	}
	if o, ok := w.prefix[n.text]; ok && len(n.args) == 1 {
		return o, true
	}
	o, ok := w.postfix[n.text]
	return o, ok && len(n.args) == 1
}

func (w refWriter) operation(o impl.Op, args []node) string {
	name := w.name(o.Name)
	if string(o.Name) == "," {
		name = ","
	}
	switch o.Type {
	case impl.OpFX, impl.OpFY:
		right := w.operand(args[0], rightGives(o), false)
		return name + refSpace(o, name, right) + right
	case impl.OpXF, impl.OpYF:
		left := w.operand(args[0], leftGives(o), w.takes(args[0], o))
		return left + refSpace(o, left, name) + name
	}
	left, right := w.operand(args[0], leftGives(o), w.takes(args[0], o)), w.operand(args[1], rightGives(o), false)
	return left + refSpace(o, left, name) + name + refSpace(o, name, right) + right
}

func (w refWriter) takes(left node, o impl.Op) bool {
	inner, ok := w.operator(left)
	return ok && inner.Pri == o.Pri && (inner.Type == impl.OpXFY || inner.Type == impl.OpFY)
}

func (w refWriter) operand(n node, p int, parens bool) string {
	if parens || n.kind == impl.TermAtom && w.isOperator(n.text) {
		return "(" + w.text(n, 1200) + ")"
	}
	return w.text(n, p)
}

// refSpace is what stands between two texts, one of them the name of the operator.
func refSpace(o impl.Op, before string, behind string) string {
	name := string(o.Name)
	bare := strings.Trim(name, symbolBytes) == "" && impl.IsPlain(o.Name)
	if !bare && !strings.Contains(" , ; ! ", " "+name+" ") {
		return " "
	}
	if before == "" || behind == "" {
		return ""
	}
	last, first := before[len(before)-1:], behind[:1]
	words := smallLetters + largeLetters + digitBytes
	isPrefix := o.Type == impl.OpFX || o.Type == impl.OpFY
	switch {
	case strings.Contains(words, last) && strings.Contains(words, first),
		strings.Contains(symbolBytes, last) && strings.Contains(symbolBytes, first),
		isPrefix && first == "(",
		isPrefix && name == "-" && strings.Contains(digitBytes, first):
		return " "
	}
	return ""
}

var operatorNames = []string{"-", "+", "=", "\\", "!", ";", "a", "b", ".", "..", "/*", "*", "X", "it's", "mod", "$", "\xff", "f", "||", "[", "0"}

// randomOps has few priorities, so that the same one comes again and again.
func randomOps(t *testing.T, d *dice) []impl.Op {
	pris := []int{1, 2, 200, 200, 500, 500, 999, 1000, 1001, 1100, 1200}
	ops := []impl.Op{comma()}
	if d.below(3) == 0 {
		ops = impl.DefaultOps()
	}
	for range d.below(12) {
		name := operatorNames[d.below(len(operatorNames))]
		next, code := impl.AddOp(ops, pris[d.below(len(pris))], d.below(7), []byte(name))
		if code == impl.CodeOK {
			ops = next
		} else if code != impl.CodeFail {
			t.Fatalf("%q: code %d", name, code)
		}
	}
	return ops
}

// randomOperation is a term whose names are often those of operators.
func randomOperation(d *dice, depth int) []impl.Cell {
	names := append([]string{"g", "[]", "{}", ",", "|", "", "Z", "?", "/"}, operatorNames...)
	numbers := []int{0, 1, -1, 12, -impl.MaxInt}
	kind := d.below(8)
	if depth == 0 {
		kind = d.below(4)
	}
	switch kind {
	case 0:
		return varTerm(d.below(3))
	case 1:
		return intTerm(numbers[d.below(len(numbers))])
	case 2, 3:
		return atomTerm(names[d.below(len(names))])
	}
	var args [][]impl.Cell
	for range 1 + d.below(21)/10 {
		args = append(args, randomOperation(d, depth-1))
	}
	return compTerm(names[d.below(len(names))], args...)
}

func TestWriteAgainstReference(t *testing.T) {
	d := dice(33)
	names := [][]byte{[]byte("+"), nil, []byte("(")}
	for range 12000 {
		ops, x := randomOps(t, &d), randomOperation(&d, 5)
		n, _ := readNode(x)
		for _, quoted := range []bool{false, true} {
			known := names[:d.below(4)]
			want := refWriter{refTableOf(ops), known, quoted}.text(n, 1200)
			if got := impl.WriteTerm(ops, x, known, quoted); string(got) != want {
				t.Fatalf("%s\nwith %s:\n got %q\nwant %q", showCells(x), showOps(ops), got, want)
			}
		}
	}
}
