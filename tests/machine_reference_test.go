package tests

import (
	"fmt"
	"slices"
	"strconv"
	"strings"
	"testing"

	"loop.example/s00095/impl"
)

// refEnv is an environment that is never written into: a Y register is given by making another.
type refEnv struct {
	below *refEnv
	cp    int
	y     []impl.Cell
}

// refState is all that failing brings back.
type refState struct {
	store   refStore
	x       [256]impl.Cell
	p       int
	cp      int
	e       *refEnv
	catches []int // the indexes of their choice points
	barrier int
	pointer int
	invoked string
}

type refClause struct {
	term   []impl.Cell
	at     int
	erased bool
}

type refProc struct {
	at      int
	dynamic bool
	clauses []*refClause
}

// refChoice is a choice point that keeps all that there was when it was made.
type refChoice struct {
	before  refState
	kind    string
	address int
	clauses []*refClause
	numbers [2]int
}

// refMachine is a second reading of chapter 11, for runs that are far from the bounds of memory.
type refMachine struct {
	refState
	indexed bool
	most    int
	fuel    int
	code    []impl.Ins
	procs   map[string]*refProc
	numbers int
	choices []refChoice
	asked   []impl.Cell
	told    impl.Outcome
}

// refBall is a term on its way out of a run within another.
type refBall struct {
	term []impl.Cell
}

// refImage is a program with the code that runs of it begin with.
type refImage struct {
	program impl.Program
	code    impl.Code
	indexed bool
}

func refImages(p impl.Program) []refImage {
	low := refLower(p)
	return []refImage{{p, refLink(low, false), false}, {p, refLink(low, true), true}}
}

func refRun(image refImage, query []impl.Cell, most int, fuel int) (o impl.Outcome) {
	m := &refMachine{indexed: image.indexed, most: most, fuel: fuel, procs: map[string]*refProc{}}
	m.code = slices.Clone(image.code.Ins)
	preds := image.program.Preds
	for i, proc := range image.code.Procs {
		q := &refProc{at: proc.At, dynamic: proc.Dynamic}
		for k := range proc.Clauses {
			if i < len(preds) {
				q.clauses = append(q.clauses, &refClause{term: preds[i].Clauses[k], at: proc.Clauses[k]})
			}
		}
		m.procs[fmt.Sprintf("%s/%d", proc.Name, proc.Arity)] = q
	}
	m.numbers = len(image.code.Procs) - len(preds)
	defer func() {
		if r := recover(); r != nil {
			switch r := r.(type) {
			case callStop:
				m.told.Code = r.code
			case refBall:
				m.told.Code, m.told.Ball = impl.CodeError, impl.Renumber(r.term)
			default:
				panic(r)
			}
		}
		o = m.told
	}()
	m.begin(query)
	return m.told
}

func (m *refMachine) begin(query []impl.Cell) {
	m.x[0] = m.put(query)
	// What was put has its variables where the query has them.
	put := m.store.term(m.x[0])
	for _, v := range impl.TermVars(query) {
		first := slices.IndexFunc(query, func(c impl.Cell) bool { return c.Kind == impl.TermVar && c.N == v })
		m.asked = append(m.asked, refWord(put[first].N))
	}
	stopIf(m.most == 0, impl.CodeMore)
	m.cp = 1
	m.loop(0, m.invoke("call/1"), m.answer)
}

// loop goes on until it fails with no more than so many choice points.
func (m *refMachine) loop(base int, holds bool, answer func()) {
	for {
		for !holds {
			if len(m.choices) == base {
				return
			}
			holds = m.back()
		}
		stopIf(m.told.Steps == m.fuel, impl.CodeFuel)
		i := m.code[m.p]
		m.p++
		if i.Op != impl.InsSwitch {
			m.told.Steps++
		}
		if i.Op == impl.InsStop {
			answer()
			holds = false
		} else {
			holds = m.step(i)
		}
	}
}

func (m *refMachine) answer() {
	var all [][]impl.Cell
	for _, w := range m.asked {
		all = append(all, m.store.term(w))
	}
	a := impl.Answer{At: len(m.told.Out)}
	if len(all) > 0 {
		a.Terms = argTerms(impl.Renumber(compTerm("t", all...)))
	}
	m.told.Answers = append(m.told.Answers, a)
	stopIf(len(m.told.Answers) == m.most, impl.CodeMore)
}

func (m *refMachine) look() {
	m.told.Cells = max(m.told.Cells, len(m.store.Cells))
	m.told.Choices = max(m.told.Choices, len(m.choices))
}

func (m *refMachine) put(x []impl.Cell) impl.Cell {
	w := m.store.put(x)
	m.look()
	return w
}

// putNew makes all variables new ones.
func (m *refMachine) putNew(x []impl.Cell) impl.Cell {
	return m.put(shifted(x, 1000000))
}

func (m *refMachine) unify(a impl.Cell, b impl.Cell) bool {
	code := m.store.unify(a, b)
	stopIf(code == impl.CodeCyclic, code)
	return code == impl.CodeOK
}

func (m *refMachine) copied() refState {
	s := m.refState
	s.store = refStore{copyStore(s.store.Store)}
	s.catches = slices.Clone(s.catches)
	return s
}

func (m *refMachine) choose(c refChoice) {
	c.before = m.copied()
	m.choices = append(m.choices, c)
	m.look()
}

// back takes the last choice point and tries what it has.
func (m *refMachine) back() bool {
	last := len(m.choices) - 1
	c := &m.choices[last]
	m.refState = c.before
	m.refState = m.copied()
	switch c.kind {
	case "address":
		m.p = c.address
		return true
	case "catch":
		m.choices = m.choices[:last]
		return false
	case "numbers":
		n := c.numbers[0]
		c.numbers[0]++
		if n == c.numbers[1] {
			m.choices = m.choices[:last]
		}
		m.p = m.cp
		return m.unify(m.x[2], intWord(n))
	}
	clause, kind := c.clauses[0], c.kind
	c.clauses = c.clauses[1:]
	if len(c.clauses) == 0 {
		m.choices = m.choices[:last]
	}
	if kind == "clauses" {
		m.p = clause.at
		return true
	}
	return m.retractNow(clause)
}

func (m *refMachine) retractNow(clause *refClause) bool {
	if clause.erased {
		return false
	}
	own := m.putNew(clause.term)
	head, body := m.x[0], atomWord("true")
	if w := m.store.deref(head); w.Kind == impl.WordStruct && isSameWord(m.store.Cells[w.N], functorWord(":-", 2)) {
		head, body = m.store.Cells[w.N+1], m.store.Cells[w.N+2]
	}
	if !m.unify(m.store.Cells[own.N+1], head) || !m.unify(m.store.Cells[own.N+2], body) {
		return false
	}
	clause.erased = true
	m.p = m.cp
	return true
}

func (m *refMachine) get(r int) impl.Cell {
	if r < 0 {
		return m.e.y[-1-r]
	}
	return m.x[r]
}

func (m *refMachine) set(r int, w impl.Cell) {
	if r >= 0 {
		m.x[r] = w
		return
	}
	e := *m.e
	e.y = slices.Clone(e.y)
	e.y[-1-r] = w
	m.e = &e
}

func constantWord(c impl.Cell) impl.Cell {
	return impl.Cell{Kind: c.Kind, N: c.N, Text: c.Text}
}

func (m *refMachine) structure(c impl.Cell) impl.Cell {
	at := len(m.store.Cells)
	m.store.Cells = append(m.store.Cells, functorWord(string(c.Text), c.N))
	for range c.N {
		m.store.Cells = append(m.store.Cells, refWord(len(m.store.Cells)))
	}
	m.pointer = at + 1
	m.look()
	return structWord(at)
}

func (m *refMachine) step(i impl.Ins) bool {
	word, _ := insFields(i.Op)
	here := refWord(m.pointer)
	if strings.HasPrefix(word, "unify") || strings.HasPrefix(word, "set") {
		m.pointer++
	}
	switch word {
	case "getvar":
		m.set(i.R, m.x[i.A])
	case "getval":
		return m.unify(m.get(i.R), m.x[i.A])
	case "getconst":
		return m.unify(m.x[i.A], constantWord(i.C))
	case "getstruct":
		return m.getStruct(i)
	case "unifyvar", "setvar":
		m.set(i.R, here)
	case "unifyval":
		return m.unify(m.get(i.R), here)
	case "unifyconst":
		return m.unify(constantWord(i.C), here)
	case "putvar", "putvoid":
		m.x[i.A] = m.put(varTerm(1000000))
		if word == "putvar" {
			m.set(i.R, m.x[i.A])
		}
	case "putval":
		m.x[i.A] = m.get(i.R)
	case "putconst":
		m.x[i.A] = constantWord(i.C)
	case "putstruct":
		m.set(i.R, m.structure(i.C))
	case "setval":
		m.store.Cells[here.N] = m.store.deref(m.get(i.R))
	case "setconst":
		m.store.Cells[here.N] = constantWord(i.C)
	case "unifyvoid", "setvoid":
	default:
		return m.control(word, i)
	}
	return true
}

func (m *refMachine) getStruct(i impl.Ins) bool {
	w := m.store.deref(m.x[i.A])
	if w.Kind == impl.WordRef {
		m.store.bind(w.N, m.structure(i.C))
		return true
	}
	m.pointer = w.N + 1
	return w.Kind == impl.WordStruct && isSameWord(m.store.Cells[w.N], functorWord(string(i.C.Text), i.C.N))
}

func (m *refMachine) control(word string, i impl.Ins) bool {
	name := fmt.Sprintf("%s/%d", i.C.Text, i.C.N)
	switch word {
	case "allocate":
		m.e = &refEnv{below: m.e, cp: m.cp, y: make([]impl.Cell, i.A)}
	case "deallocate":
		m.cp, m.e = m.e.cp, m.e.below
	case "call":
		m.cp = m.p
		return m.invoke(name)
	case "execute":
		return m.invoke(name)
	case "proceed":
		m.p = m.cp
	case "builtin":
		return m.builtin(name)
	case "level":
		m.set(i.R, intWord(m.barrier))
	case "mark":
		m.set(i.R, intWord(len(m.choices)))
	case "cut":
		m.choices = m.choices[:min(len(m.choices), m.store.deref(m.get(i.R)).N)]
	case "fail":
		return false
	case "uncatch":
		m.catches = m.catches[:len(m.catches)-1]
		m.p, m.cp, m.e = m.e.cp, m.e.cp, m.e.below
	case "try":
		m.choose(refChoice{kind: "address", address: m.p})
		m.p = i.A
	case "retry":
		m.choices[len(m.choices)-1].address = m.p
		m.p = i.A
	case "trust":
		m.choices = m.choices[:len(m.choices)-1]
		m.p = i.A
	case "switch":
		m.p = m.chosen(i)
	}
	return true
}

func (m *refMachine) chosen(i impl.Ins) int {
	w := m.store.deref(m.x[0])
	if w.Kind == impl.WordRef {
		return i.A
	}
	if w.Kind == impl.WordStruct {
		w = m.store.Cells[w.N]
	}
	for k, key := range i.K {
		if key.Kind == w.Kind && key.N == w.N && string(key.Text) == string(w.Text) {
			return i.L[k]
		}
	}
	return i.R
}

func (m *refMachine) arity() int {
	n, _ := strconv.Atoi(m.invoked[strings.LastIndex(m.invoked, "/")+1:])
	return n
}

func (m *refMachine) terms(n int) [][]impl.Cell {
	var all [][]impl.Cell
	for i := range n {
		all = append(all, m.store.term(m.x[i]))
	}
	return all
}

func (m *refMachine) builtin(name string) bool {
	if name == "=/2" {
		return m.unify(m.x[0], m.x[1])
	}
	cut := strings.LastIndex(name, "/")
	n, _ := strconv.Atoi(name[cut+1:])
	e, code := impl.Builtin(impl.DefaultOps(), []byte(name[:cut]), m.terms(n), len(m.store.Cells))
	switch code {
	case impl.CodeFail:
		return false
	case impl.CodeError:
		return m.throw(e.Error)
	case impl.CodeLimit:
		panic(callStop{code: code})
	}
	m.told.Out = append(m.told.Out, e.Out...)
	var pairs [][]impl.Cell
	for i := range e.Left {
		pairs = append(pairs, e.Left[i], e.Right[i])
	}
	words := m.putTogether(pairs)
	for i := 0; i < len(words); i += 2 {
		if !m.unify(words[i], words[i+1]) {
			return false
		}
	}
	return true
}

// putTogether puts terms one after the other; new variables have the numbers from that of the cells on.
func (m *refMachine) putTogether(all [][]impl.Cell) []impl.Cell {
	old := len(m.store.Cells)
	places := map[int]int{}
	var words []impl.Cell
	for _, x := range all {
		x = copyTerm(x)
		for i, c := range x {
			if at, known := places[c.N]; c.Kind == impl.TermVar && c.N >= old {
				x[i].N = 1000000 + c.N
				if known {
					x[i].N = at
				}
			}
		}
		w := m.put(x)
		for i, c := range m.store.term(w) {
			if x[i].Kind == impl.TermVar && x[i].N >= 1000000 {
				places[x[i].N-1000000] = c.N
			}
		}
		words = append(words, w)
	}
	return words
}

func (m *refMachine) throw(ball []impl.Cell) bool {
	for len(m.catches) > 0 {
		at := m.catches[len(m.catches)-1]
		c := m.choices[at]
		m.choices = m.choices[:at]
		m.refState = c.before
		m.refState = m.copied()
		if m.unify(m.putNew(ball), m.x[1]) {
			m.x[0] = m.x[2]
			return m.invoke("call/1")
		}
		m.refState = c.before
	}
	panic(refBall{term: ball})
}

func (m *refMachine) fault(parts ...[]impl.Cell) bool {
	f := parts[0]
	if len(parts) > 1 {
		f = compTerm(string(f[0].Text), parts[1:]...)
	}
	return m.throw(compTerm("error", f, m.indicator(m.invoked)))
}

func (m *refMachine) indicator(name string) []impl.Cell {
	cut := strings.LastIndex(name, "/")
	n, _ := strconv.Atoi(name[cut+1:])
	return compTerm("/", atomTerm(name[:cut]), intTerm(n))
}

func (m *refMachine) alternatives(kind string, q *refProc) bool {
	var left []*refClause
	for _, c := range q.clauses {
		if !c.erased {
			left = append(left, c)
		}
	}
	if len(left) == 0 {
		return false
	}
	m.choose(refChoice{kind: kind, clauses: left})
	return m.back()
}

func (m *refMachine) invoke(name string) bool {
	m.barrier, m.invoked = len(m.choices), name
	cut := strings.LastIndex(name, "/")
	if q := m.procs[name]; q != nil && q.dynamic {
		return m.alternatives("clauses", q)
	} else if q != nil {
		m.p = q.at
		return true
	}
	if impl.IsBuiltin([]byte(name[:cut]), m.arity()) {
		m.p = m.cp
		return m.builtin(name)
	}
	switch name {
	case "call/1", "call/2", "call/3", "call/4", "call/5", "call/6", "call/7", "call/8":
		return m.call()
	case "catch/3":
		m.choose(refChoice{kind: "catch"})
		m.catches = append(m.catches, len(m.choices)-1)
		m.e = &refEnv{below: m.e, cp: m.cp}
		m.cp = 2
		return m.invoke("call/1")
	case "throw/1":
		ball := m.terms(1)[0]
		if ball[0].Kind == impl.TermVar {
			return m.fault(atomTerm("instantiation_error"))
		}
		return m.throw(ball)
	case "findall/3":
		return m.findall()
	case "between/3":
		return m.between()
	case "asserta/1", "assertz/1", "retract/1":
		return m.change(name)
	case "phrase/2":
		m.x[2] = atomWord("[]")
		return m.invoke("phrase/3")
	case "phrase/3":
		return m.phrase()
	case "halt/0":
		panic(callStop{code: impl.CodeHalt})
	}
	return m.fault(atomTerm("existence_error"), atomTerm("procedure"), m.indicator(name))
}

func (m *refMachine) call() bool {
	goal := m.terms(m.arity())
	first := goal[0]
	switch first[0].Kind {
	case impl.TermVar:
		return m.fault(atomTerm("instantiation_error"))
	case impl.TermInt:
		return m.fault(atomTerm("type_error"), atomTerm("callable"), first)
	}
	args := append(argTerms(first), goal[1:]...)
	if len(args) > impl.MaxArity {
		return m.fault(atomTerm("representation_error"), atomTerm("max_arity"))
	}
	whole := atomTerm(string(first[0].Text))
	if len(args) > 0 {
		whole = compTerm(string(first[0].Text), args...)
	}
	if !slices.Contains([]string{",/2", ";/2", "->/2", `\+/1`, "once/1", "forall/2", "!/0"}, shape(whole)) && !strings.HasPrefix(shape(whole), "$") {
		m.arguments(m.arity())
		return m.invoke(shape(whole))
	}
	body, code := refMade(func() []impl.Cell { return refNormal(whole) })
	if code == impl.CodeFail {
		return m.fault(atomTerm("type_error"), atomTerm("callable"), whole)
	}
	var head [][]impl.Cell
	for i, v := range impl.TermVars(whole) {
		head = append(head, varTerm(v))
		m.x[i] = refWord(v)
	}
	stopIf(len(head) > impl.MaxArity || code != impl.CodeOK, impl.CodeLimit)
	m.numbers++
	m.invoked, m.barrier = fmt.Sprintf("$%d/%d", m.numbers, len(head)), len(m.choices)
	own := atomTerm("own")
	if len(head) > 0 {
		own = compTerm("own", head...)
	}
	m.p = m.add(own, body)
	return true
}

// arguments makes the registers those of the goal in X0, with the others behind.
func (m *refMachine) arguments(n int) {
	words := slices.Clone(m.x[1:n])
	if w := m.store.deref(m.x[0]); w.Kind == impl.WordStruct {
		words = append(slices.Clone(m.store.Cells[w.N+1:w.N+1+m.store.Cells[w.N].N]), words...)
	}
	copy(m.x[:], words)
}

// add lowers and links a clause, and answers its address.
func (m *refMachine) add(head []impl.Cell, body []impl.Cell) int {
	whole := impl.Renumber(compTerm(":-", head, body))
	low := refLower(impl.Program{Preds: []impl.Pred{{Name: head[0].Text, Arity: head[0].N, Dynamic: true, Clauses: [][]impl.Cell{whole}}}})
	at := 0
	for i, q := range low.Preds {
		q.Clauses = copyLists(q.Clauses)
		for _, clause := range q.Clauses {
			for k, c := range clause {
				clause[k].Text = []byte(m.later(string(c.Text)))
			}
		}
		ins, proc := refPredicate(q, m.indexed, len(m.code))
		m.code = append(m.code, ins...)
		if i == 0 {
			at = proc.Clauses[0]
		} else {
			m.procs[fmt.Sprintf("%s/%d", m.later(string(q.Name)), q.Arity)] = &refProc{at: proc.At}
		}
	}
	m.numbers += len(low.Preds) - 1
	return at
}

// later gives the name of a new predicate the number that it has in this run.
func (m *refMachine) later(name string) string {
	digits, isNew := strings.CutPrefix(name, "$")
	n, err := strconv.Atoi(digits)
	if !isNew || err != nil {
		return name
	}
	return fmt.Sprintf("$%d", m.numbers+n)
}

func (m *refMachine) findall() bool {
	before, choices := m.copied(), len(m.choices)
	var taken [][]impl.Cell
	ball := m.within(choices, &taken)
	m.refState = before
	if ball != nil {
		m.choices = m.choices[:choices]
		return m.throw(ball)
	}
	list := atomTerm("[]")
	for i, x := range slices.Backward(taken) {
		list = compTerm(".", shifted(x, 100000*(i+1)), list)
	}
	m.p = m.cp
	return m.unify(m.x[2], m.putNew(list))
}

// within is a run within this one; it answers the ball that left it.
func (m *refMachine) within(choices int, taken *[][]impl.Cell) (ball []impl.Cell) {
	defer func() {
		if r := recover(); r != nil {
			thrown, isBall := r.(refBall)
			if !isBall {
				panic(r)
			}
			ball = thrown.term
		}
	}()
	template := m.x[0]
	m.x[0], m.cp, m.e, m.catches = m.x[1], 1, nil, nil
	m.loop(choices, m.invoke("call/1"), func() { *taken = append(*taken, m.store.term(template)) })
	return nil
}

func (m *refMachine) between() bool {
	args := m.terms(3)
	for i, x := range args {
		switch {
		case x[0].Kind == impl.TermVar && i < 2:
			return m.fault(atomTerm("instantiation_error"))
		case x[0].Kind != impl.TermVar && x[0].Kind != impl.TermInt:
			return m.fault(atomTerm("type_error"), atomTerm("integer"), x)
		}
	}
	low, high, value := args[0][0].N, args[1][0].N, args[2][0]
	if value.Kind == impl.TermInt {
		m.p = m.cp
		return low <= value.N && value.N <= high
	}
	if low > high {
		return false
	}
	m.choose(refChoice{kind: "numbers", numbers: [2]int{low, high}})
	return m.back()
}

func (m *refMachine) change(name string) bool {
	clause := m.terms(1)[0]
	head, body := clause, atomTerm("true")
	if shape(clause) == ":-/2" {
		head, body = argTerms(clause)[0], argTerms(clause)[1]
	}
	switch shape(head) {
	case "variable":
		return m.fault(atomTerm("instantiation_error"))
	case "number":
		return m.fault(atomTerm("type_error"), atomTerm("callable"), head)
	}
	normal, code := refMade(func() []impl.Cell { return refNormal(body) })
	if name != "retract/1" && code == impl.CodeFail {
		return m.fault(atomTerm("type_error"), atomTerm("callable"), body)
	}
	q := m.procs[shape(head)]
	if impl.IsReserved(head[0].Text, len(argTerms(head))) || q != nil && !q.dynamic {
		return m.fault(atomTerm("permission_error"), atomTerm("modify"), atomTerm("static_procedure"), m.indicator(shape(head)))
	}
	if name == "retract/1" {
		return q != nil && m.alternatives("retract", q)
	}
	stopIf(code != impl.CodeOK, code)
	if q == nil {
		q = &refProc{dynamic: true}
		m.procs[shape(head)] = q
	}
	made := &refClause{term: impl.Renumber(compTerm(":-", head, normal)), at: m.add(head, normal)}
	if name == "asserta/1" {
		q.clauses = append([]*refClause{made}, q.clauses...)
	} else {
		q.clauses = append(slices.Clone(q.clauses), made)
	}
	m.p = m.cp
	return true
}

func (m *refMachine) phrase() bool {
	parts := m.terms(3)
	if parts[0][0].Kind == impl.TermVar {
		return m.fault(atomTerm("instantiation_error"))
	}
	g := refGrammar{next: len(m.store.Cells)}
	goal, code := refMade(func() []impl.Cell { return g.translate(parts[0], parts[1], parts[2]) })
	if code == impl.CodeFail {
		return m.fault(atomTerm("type_error"), atomTerm("callable"), parts[0])
	}
	stopIf(code != impl.CodeOK, code)
	m.x[0] = m.put(goal)
	return m.invoke("call/1")
}

// machineFacts are what mixed queries call.
const machineFacts = `
:- dynamic d/1, e/2, none/0.
d(1). d(2). d(X) :- X = 3, !. d(4).
e(a, 1). e(X, 2) :- d(X). e(f(X), Y) :- (X = Y ; Y = 9).
q(1). q(2). q(3).
r(a, 1). r(b, 2). r(X, 3) :- X = c. r(f(X), X). r(1, 4).
app([], L, L). app([H|T], L, [H|R]) :- app(T, L, R).
one(X) :- q(X), !.
two(X) :- d(X), (X > 1 -> ! ; fail).
two(7).
count(0) :- !. count(N) :- M is N - 1, count(M).
deep(f(g(X, [Y|Z])), Y, h(X, k(Z))) :- q(X), r(Y, _).
s --> [a], s. s --> [b], !. s --> [].
t([X|Y]) --> [X], {write(X)}, t(Y). t([]) --> \+ [c], [].
`

// mixedGoalText is a goal of all sorts; deeper ones have others within them.
func mixedGoalText(d *dice, depth int) string {
	leaves := []string{
		"q(X)", "q(Y)", "r(X, Y)", "r(f(Z), Y)", "r(b, Z)", "d(X)", "d(Z)", "e(X, Y)", "e(f(X), Z)", "none", "app(X, Y, [1, 2])",
		"app([1], X, Z)", "one(X)", "two(Y)", "count(2)", "deep(f(X), Y, Z)", "X = f(Y)", "Z = X", "Y = [X|Z]", "X == Y", "X @< Y",
		"X is 1 + 2", "Y is X + 1", "Z = g(X, Y, X)", "write(X)", "writeq(Y - Z)", "nl", "!", "!", "true", "fail", "missing(X)", "X",
		"between(1, 3, X)", "between(1, 2, Y)", "between(2, X, 2)", "between(3, 2, Z)", "between(Y, 3, X)", "throw(X)", "throw(f(X, Y))",
		"throw(ball)", "assertz(d(X))", "asserta(d(5))", "assertz(n(X))", "asserta((n(X) :- q(X), Y = X))", "assertz((m(X, Y) :- d(X), ! ; Y = X))",
		"n(X)", "m(X, Y)", "retract(d(X))", "retract((d(X) :- Y))", "retract((e(a, Z) :- true))", "retract(n(Y))", "retract((m(X, Y) :- Z))",
		"assertz(q(4))", "assertz((d(X) :- 1))", "asserta(X)", "retract(write(X))", "assertz((3 :- a))", "phrase(s, X)", "phrase(s, [a, b|Y], Z)",
		"phrase(t(X), [a, b], Y)", "phrase(X, Y)", "phrase(([a] ; [b], s), Y, Z)", "phrase(3, Y)", "call(q, X)", "call(r(X), Y)", "call(r, Y, Z)",
		"call(X, Y)", "call(',', q(X), !)", "call(3)", "functor(X, f, 2)", "X =.. [f, Y, Z]", "copy_term(f(X, Y), Z)", "length(X, 2)", "arg(1, X, Y)",
		"X = f(X)", "Y = g(Z), Z = h(Y)", "msort([Z, Y, X, 1], Y)", "atom_length(X, Y)", "halt", "'$a'", "call('$a', X)", "phrase(({q(X)}, \\+ [a]), [b], Y)",
	}
	part := func() string { return mixedGoalText(d, depth-1) }
	if depth <= 0 || d.below(4) == 0 {
		return leaves[d.below(len(leaves))]
	}
	v := func() string { return []string{"X", "Y", "Z"}[d.below(3)] }
	switch d.below(20) {
	case 0, 1, 2, 3, 4, 5:
		return fmt.Sprintf("(%s, %s)", part(), part())
	case 6, 7:
		return fmt.Sprintf("(%s ; %s)", part(), part())
	case 8:
		return fmt.Sprintf("(%s -> %s)", part(), part())
	case 9, 10:
		return fmt.Sprintf("(%s -> %s ; %s)", part(), part(), part())
	case 11:
		return fmt.Sprintf(`\+ %s`, part())
	case 12:
		return fmt.Sprintf("%s(%s)", []string{"once", "call"}[d.below(2)], part())
	case 13:
		return fmt.Sprintf("forall(%s, %s)", part(), part())
	case 14, 15, 16:
		ball := []string{"B", "ball", "f(X, 1)", "error(B, _)", "error(existence_error(A, B), Y)", "f(1, Y)"}[d.below(6)]
		return fmt.Sprintf("catch(%s, %s, %s)", part(), ball, part())
	case 17, 18:
		return fmt.Sprintf("findall(%s, %s, %s)", []string{"X", "X - Y", "g(Z)", "k"}[d.below(4)], part(), v())
	}
	return fmt.Sprintf("assertz((n(%s) :- %s))", v(), part())
}

// wantAsRefRun asks for all that an outcome holds, and answers that with switches.
func wantAsRefRun(t *testing.T, images []refImage, query string, most int, fuel int) impl.Outcome {
	t.Helper()
	var last impl.Outcome
	for _, image := range images {
		want := refRun(image, clauseTerm(query), most, fuel)
		last = impl.RunMachine(impl.DefaultOps(), image.program, clauseTerm(query), most, fuel, image.indexed)
		if showOutcome(last) != showOutcome(want) {
			t.Errorf("%s ?- %s, %d answers, %d steps, indexed %v:\n got %.1500s\nwant %.1500s", impl.ShowProgram(impl.DefaultOps(), image.program), query, most, fuel, image.indexed, showOutcome(last), showOutcome(want))
		}
	}
	return last
}

func TestMachineReference(t *testing.T) {
	t.Parallel()
	d := dice(111)
	codes := map[int]int{}
	images := refImages(built(t, machineFacts))
	for range 2500 {
		o := wantAsRefRun(t, images, mixedGoalText(&d, 2+d.below(4)), d.below(6), d.below(300))
		codes[o.Code]++
		if t.Failed() {
			return
		}
	}
	wantOften(t, codes, impl.CodeOK, impl.CodeError, impl.CodeMore, impl.CodeFuel)
}

// Bodies whose normal bodies are too great, with heads that may be changed and heads that may not.
func TestMachineReferenceGreatBodies(t *testing.T) {
	t.Parallel()
	codes := map[int]int{}
	images := refImages(built(t, machineFacts))
	for _, body := range []string{goalsOf("X", 700), goalsOf("forall(a, b)", 400), goalsOf("X", 700) + ", 1"} {
		for _, head := range []string{"q(1)", "d(X)", "z", "true", "Z", "3"} {
			for _, name := range []string{"asserta", "assertz"} {
				codes[wantAsRefRun(t, images, fmt.Sprintf("%s((%s :- %s))", name, head, body), 3, 100).Code]++
			}
		}
	}
	if codes[impl.CodeError] != 28 || codes[impl.CodeLimit] != 8 {
		t.Errorf("codes %v", codes)
	}
}

// mixedClauses are clauses whose heads differ in their first arguments, with bodies of all sorts.
func mixedClauses(d *dice) string {
	heads := []string{"p(a, X)", "p(b, Y)", "p(1, Z)", "p(f(X), Y)", "p(f(X, Y), Z)", "p(X, Y)", "p([X|Y], Z)", "p([], X)", "p(X, X)", "w(X)", "w(f(Y))", "w", "v(X, f(Y), Z)", "v(Z, [X, Y], X)"}
	text := []string{":- dynamic n/1, m/2, d/1, w/0."}
	if d.below(2) == 0 {
		text = append(text, ":- dynamic p/2.")
	}
	for range 2 + d.below(6) {
		head := heads[d.below(len(heads))]
		if d.below(3) == 0 {
			text = append(text, head+".")
		} else {
			// A goal with such a name cannot stand in a program.
			body := strings.ReplaceAll(mixedGoalText(d, d.below(4)), "'$a'", "missing")
			text = append(text, head+" :- "+body+".")
		}
	}
	return strings.Join(text, "\n") + "\nq(1). q(2). v(1, 2, 3)."
}

func TestMachineReferencePrograms(t *testing.T) {
	t.Parallel()
	d := dice(112)
	codes := map[int]int{}
	for range 400 {
		images := refImages(built(t, mixedClauses(&d)))
		for _, query := range []string{"p(X, Y)", "p(f(Z), X)", "p(a, 1)", "p(1, Y), w(X)", "w(f(X)), p(X, Y)", "v(X, Y, Z)", "findall(X - Y, p(X, Y), L)"} {
			o := wantAsRefRun(t, images, query, 1+d.below(6), d.below(200))
			codes[o.Code]++
		}
		if t.Failed() {
			return
		}
	}
	wantOften(t, codes, impl.CodeOK, impl.CodeError, impl.CodeMore, impl.CodeFuel)
}

// What a search over goals finds, which knows nothing of code, the machine finds.
func TestMachineMeansWhatIsSearched(t *testing.T) {
	t.Parallel()
	d := dice(113)
	ended := 0
	for range 1500 {
		src := meaningFacts + "t(X, Y, Z) :- " + randomControl(&d, 4) + ". t(7, 8, 9)."
		p := built(t, src)
		want, isAtEnd := searched(p, clauseTerm("t(X, Y, Z)"))
		if !isAtEnd {
			continue
		}
		ended++
		o := impl.RunMachine(impl.DefaultOps(), p, clauseTerm("t(X, Y, Z)"), impl.MaxAnswers, impl.MaxFuel, true)
		var answers []string
		for _, a := range o.Answers {
			answers = append(answers, string(impl.WriteTerm(impl.DefaultOps(), compTerm("t", a.Terms...), nil, true)))
		}
		if got := string(o.Out) + "|" + strings.Join(answers, " "); got != want && len(answers) < impl.MaxAnswers {
			t.Errorf("%s:\n got %s\nwant %s", src, got, want)
		}
	}
	if ended < 1000 {
		t.Errorf("only %d came to their end", ended)
	}
}
