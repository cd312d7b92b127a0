package tests

import (
	"fmt"
	"slices"
	"strings"
	"testing"

	"loop.example/s00095/impl"
)

// shape is a name with its arity, or what stands for a variable or a number.
func shape(x []impl.Cell) string {
	switch x[0].Kind {
	case impl.TermVar:
		return "variable"
	case impl.TermInt:
		return "number"
	case impl.TermAtom:
		return string(x[0].Text) + "/0"
	}
	return fmt.Sprintf("%s/%d", x[0].Text, x[0].N)
}

// refNormal is a second reading of 8.1; it panics where a body is not normal.
func refNormal(x []impl.Cell) []impl.Cell {
	args := argTerms(x)
	switch s := shape(x); {
	case s == "variable":
		return compTerm("call", x)
	case s == "number" || strings.HasPrefix(s, "$"):
		panic(callStop{code: impl.CodeFail})
	case s == "once/1":
		return compTerm("->", refNormal(args[0]), atomTerm("true"))
	case s == "forall/2":
		return compTerm(`\+`, compTerm(",", refNormal(args[0]), compTerm(`\+`, refNormal(args[1]))))
	case s == `\+/1`:
		return compTerm(`\+`, refNormal(args[0]))
	case s == ",/2" || s == ";/2" || s == "->/2":
		return compTerm(string(x[0].Text), refNormal(args[0]), refNormal(args[1]))
	}
	return x
}

// refGrammar is a second reading of 8.2.
type refGrammar struct {
	next int
}

func (g *refGrammar) needed() []impl.Cell {
	g.next++
	return varTerm(g.next - 1)
}

func (g *refGrammar) rule(x []impl.Cell) []impl.Cell {
	for _, v := range impl.TermVars(x) {
		g.next = max(g.next, v+1)
	}
	left, right := argTerms(x)[0], argTerms(x)[1]
	first, last := g.needed(), g.needed()
	head := left
	if shape(left) == ",/2" {
		head = argTerms(left)[0]
	}
	stopIf(slices.Contains([]string{"variable", "number", "[]/0", "./2"}, shape(head)), impl.CodeFail)
	head = g.further(head, first, last)
	if shape(left) != ",/2" {
		return compTerm(":-", head, g.translate(right, first, last))
	}
	middle := g.needed()
	body := g.translate(right, first, middle)
	items, end := refItems(argTerms(left)[1])
	stopIf(!isEmptyList(end), impl.CodeFail)
	return compTerm(":-", head, compTerm(",", body, compTerm("=", last, listEnding(middle, items...))))
}

func (g *refGrammar) further(x []impl.Cell, s []impl.Cell, e []impl.Cell) []impl.Cell {
	args := append(argTerms(x), s, e)
	stopIf(len(args) > impl.MaxArity, impl.CodeLimit)
	return compTerm(string(x[0].Text), args...)
}

func (g *refGrammar) translate(x []impl.Cell, s []impl.Cell, e []impl.Cell) []impl.Cell {
	args := argTerms(x)
	same := compTerm("=", s, e)
	switch shape(x) {
	case "variable":
		return compTerm("phrase", x, s, e)
	case "number":
		panic(callStop{code: impl.CodeFail})
	case ",/2", "->/2":
		m := g.needed()
		a := g.translate(args[0], s, m)
		return compTerm(string(x[0].Text), a, g.translate(args[1], m, e))
	case ";/2":
		a := g.translate(args[0], s, e)
		return compTerm(";", a, g.translate(args[1], s, e))
	case `\+/1`:
		return compTerm(",", compTerm(`\+`, g.translate(args[0], s, g.needed())), same)
	case "!/0":
		return compTerm(",", x, same)
	case "{}/1":
		return compTerm(",", args[0], same)
	case "[]/0", "./2":
		items, end := refItems(x)
		stopIf(!isEmptyList(end), impl.CodeFail)
		return compTerm("=", s, listEnding(e, items...))
	}
	return g.further(x, s, e)
}

// refMade answers what a reading makes, or the code with which it stops; what is beyond the limits has CodeLimit.
func refMade(read func() []impl.Cell) (made []impl.Cell, code int) {
	defer func() {
		if r := recover(); r != nil {
			made, code = nil, r.(callStop).code
		}
	}()
	made = read()
	if !impl.ValidTerm(made) {
		return nil, impl.CodeLimit
	}
	return made, impl.CodeOK
}

// mixedBody has constructs of bodies and of grammars, and all sorts of goals.
func mixedBody(d *dice, depth int) []impl.Cell {
	goals := []string{"a", "b(X0)", "c(X1,X0)", "d(X3,f(X2))", "X0", "X2", "!", "!", "true", "[a,X1]", "[]", "{X4}", "{e,!}", "call(X0)", "call((a,!))", "findall(X0,(a;b),X1)", "'$a'", "7", "[a|X0]", "{}", "once", `"ab"`}
	if depth == 0 || d.below(5) == 0 {
		// Faults are rare, so that greater bodies have none.
		goal := goals[d.below(len(goals))]
		if (goal == "'$a'" || goal == "7" || goal == "[a|X0]") && d.below(5) > 0 {
			goal = "a"
		}
		return parsed(goal)
	}
	names := []string{",", ",", ";", ";", "->", "->", `\+`, "once", "forall", "{}", "!", "->", "f"}
	name := names[d.below(len(names))]
	args := [][]impl.Cell{mixedBody(d, depth-1)}
	if !slices.Contains([]string{`\+`, "once", "{}"}, name) || d.below(30) == 0 {
		args = append(args, mixedBody(d, depth-1))
	}
	return compTerm(name, args...)
}

func TestNormalBodyReference(t *testing.T) {
	d := dice(83)
	codes := map[int]int{}
	for range 5000 {
		x := mixedBody(&d, 1+d.below(6))
		want, wantCode := refMade(func() []impl.Cell { return refNormal(x) })
		got, code := impl.NormalBody(x)
		codes[code]++
		if code != wantCode || showCells(got) != showCells(want) {
			t.Errorf("%s:\n got %d %s\nwant %d %s", showCells(x), code, showCells(got), wantCode, showCells(want))
		}
		if again, code2 := impl.NormalBody(got); code == impl.CodeOK && (code2 != impl.CodeOK || showCells(again) != showCells(got)) {
			t.Errorf("%s: its normal body %s has another, %s", showCells(x), showCells(got), showCells(again))
		}
	}
	if codes[impl.CodeOK] < 2000 || codes[impl.CodeFail] < 100 {
		t.Errorf("codes %v", codes)
	}
}

func TestGrammarReference(t *testing.T) {
	d := dice(84)
	lefts := []string{"s", "s", "s", "s(X5)", "s(X2,a)", "s,[b]", "s,[X1,X6]", "s,[]", "s,x", "X1", "[]", "(s,t),[b]", "1", "[a]", wideGoal(18), wideGoal(19)}
	codes := map[int]int{}
	for range 5000 {
		x := compTerm("-->", parsed(lefts[d.below(len(lefts))]), mixedBody(&d, d.below(6)))
		want, wantCode := refMade(func() []impl.Cell { return new(refGrammar).rule(x) })
		got, code := impl.TranslateGrammar(x)
		codes[code]++
		if code != wantCode || showCells(got) != showCells(want) {
			t.Errorf("%s:\n got %d %s\nwant %d %s", showCells(x), code, showCells(got), wantCode, showCells(want))
		}
		if code == impl.CodeOK && shape(got) != ":-/2" {
			t.Errorf("%s: no clause, %s", showCells(x), showCells(got))
		}
	}
	if codes[impl.CodeOK] < 2000 || codes[impl.CodeFail] < 500 || codes[impl.CodeLimit] < 100 {
		t.Errorf("codes %v", codes)
	}
}

// refLowering is a second reading of 8.4, without its limits.
type refLowering struct {
	preds []impl.Pred
	next  int
}

func (r *refLowering) newVar() []impl.Cell {
	r.next++
	return varTerm(r.next)
}

func refHasCuts(x []impl.Cell) bool {
	args := argTerms(x)
	switch shape(x) {
	case "!/0":
		return true
	case ",/2", ";/2":
		return refHasCuts(args[0]) || refHasCuts(args[1])
	case "->/2":
		return refHasCuts(args[1])
	}
	return false
}

func (r *refLowering) goals(x []impl.Cell, cut []impl.Cell) [][]impl.Cell {
	args := argTerms(x)
	switch shape(x) {
	case ",/2":
		first := r.goals(args[0], cut)
		return append(first, r.goals(args[1], cut)...)
	case "true/0":
		return nil
	case "!/0":
		return [][]impl.Cell{compTerm("$cut", cut)}
	case ";/2", "->/2", `\+/1`:
		return [][]impl.Cell{r.construct(x, cut)}
	}
	return [][]impl.Cell{x}
}

func (r *refLowering) clause(head []impl.Cell, goals [][]impl.Cell) []impl.Cell {
	body := atomTerm("true")
	for i, goal := range slices.Backward(goals) {
		if i == len(goals)-1 {
			body = goal
		} else {
			body = compTerm(",", goal, body)
		}
	}
	return impl.Renumber(compTerm(":-", head, body))
}

func (r *refLowering) construct(x []impl.Cell, cut []impl.Cell) []impl.Cell {
	var vars [][]impl.Cell
	for _, v := range impl.TermVars(x) {
		vars = append(vars, varTerm(v))
	}
	if refHasCuts(x) {
		vars = append(vars, cut)
	}
	number := len(r.preds)
	name := fmt.Sprintf("$%d", number+1)
	head := atomTerm(name)
	if len(vars) > 0 {
		head = compTerm(name, vars...)
	}
	r.preds = append(r.preds, impl.Pred{Name: []byte(name), Arity: len(vars)})
	put := func(goals [][]impl.Cell) {
		clauses := append(r.preds[number].Clauses, r.clause(head, goals))
		r.preds[number].Clauses = clauses
	}
	args := argTerms(x)
	switch {
	case shape(x) == "->/2":
		put(r.guarded(args[0], args[1], cut))
	case shape(x) == `\+/1`:
		put(r.guarded(args[0], atomTerm("fail"), cut))
		put(nil)
	case shape(args[0]) == "->/2":
		put(r.guarded(argTerms(args[0])[0], argTerms(args[0])[1], cut))
		put(r.goals(args[1], cut))
	default:
		put(r.goals(args[0], cut))
		put(r.goals(args[1], cut))
	}
	return head
}

func (r *refLowering) guarded(condition []impl.Cell, then []impl.Cell, cut []impl.Cell) [][]impl.Cell {
	level := r.newVar()
	goals := [][]impl.Cell{compTerm("$level", level)}
	var mark []impl.Cell
	if refHasCuts(condition) {
		mark = r.newVar()
		goals = append(goals, compTerm("$mark", mark))
	}
	goals = append(goals, r.goals(condition, mark)...)
	goals = append(goals, compTerm("$cut", level))
	return append(goals, r.goals(then, cut)...)
}

func refLower(p impl.Program) impl.Program {
	r := &refLowering{next: 5000}
	out := impl.Program{Goals: p.Goals}
	for _, q := range p.Preds {
		low := impl.Pred{Name: q.Name, Arity: q.Arity, Dynamic: q.Dynamic}
		for _, clause := range q.Clauses {
			head, body := argTerms(clause)[0], argTerms(clause)[1]
			var goals [][]impl.Cell
			var cut []impl.Cell
			if refHasCuts(body) {
				cut = r.newVar()
				goals = append(goals, compTerm("$level", cut))
			}
			low.Clauses = append(low.Clauses, r.clause(head, append(goals, r.goals(body, cut)...)))
		}
		out.Preds = append(out.Preds, low)
	}
	out.Preds = append(out.Preds, r.preds...)
	return out
}

func isFlat(body []impl.Cell) bool {
	constructs := []string{",/2", ";/2", "->/2", `\+/1`, "once/1", "forall/2", "!/0", "variable", "number"}
	for shape(body) == ",/2" {
		parts := argTerms(body)
		if slices.Contains(constructs, shape(parts[0])) || shape(parts[0]) == "true/0" {
			return false
		}
		body = parts[1]
	}
	return !slices.Contains(constructs, shape(body))
}

// mixedProgram has heads, goals and directives around mixed bodies.
func mixedProgram(d *dice, size int) []impl.Clause {
	heads := []string{"p", "p(X0)", "q(X1,X0)", "q(a,f(X2))", "r", "p(X3)"}
	var clauses []impl.Clause
	for range 1 + d.below(size) {
		body, head := mixedBody(d, d.below(6)), parsed(heads[d.below(len(heads))])
		x := compTerm(":-", head, body)
		switch d.below(12) {
		case 0:
			x = head
		case 1:
			x = compTerm(":-", body)
		case 2:
			x = compTerm("-->", head, body)
		case 3:
			x = parsed([]string{":- dynamic p/1", ":- dynamic [r/0,s/3]", ":- dynamic q/2, t/0"}[d.below(3)])
		case 4:
			x = compTerm(":-", compTerm("initialization", body))
		}
		clauses = append(clauses, impl.Clause{Term: x})
	}
	return clauses
}

func TestLowerReference(t *testing.T) {
	d := dice(85)
	lowered := 0
	for range 2000 {
		p, code, _ := impl.BuildProgram(mixedProgram(&d, 4))
		if code != impl.CodeOK {
			continue
		}
		low, code := impl.LowerProgram(p)
		if code != impl.CodeOK {
			t.Errorf("%s: %d", showProgram(p), code)
			continue
		}
		lowered++
		wantProgram(t, showProgram(p), low, refLower(p))
		for _, q := range low.Preds {
			for _, clause := range q.Clauses {
				if !isFlat(argTerms(clause)[1]) || !isSameTerm(clause, impl.Renumber(clause)) {
					t.Errorf("%s: not flat, or with other numbers: %s", showProgram(p), showCells(clause))
				}
			}
		}
	}
	if lowered < 1000 {
		t.Errorf("only %d programs", lowered)
	}
}

func TestBuiltIsValidAndShownAgain(t *testing.T) {
	d := dice(86)
	built := 0
	tables := append([][]impl.Op{impl.DefaultOps(), {comma()}, defaultWith(t, op(700, "xfx", "a"), op(200, "fy", "p"), op(1200, "xf", "true"), op(300, "yf", "r"), op(999, "fx", "!"))}, goodTables()...)
	for range 2000 {
		clauses := mixedProgram(&d, 5)
		p, code, at := impl.BuildProgram(clauses)
		if code != impl.CodeOK {
			if before, code2, _ := impl.BuildProgram(clauses[:at]); code2 != impl.CodeOK || !impl.ValidProgram(before) || !isZeroProgram(p) {
				t.Errorf("%s: %d@%d, but %d before", showClauses(clauses), code, at, code2)
			}
			continue
		}
		built++
		if !impl.ValidProgram(p) {
			t.Errorf("%s: not valid: %s", showClauses(clauses), showProgram(p))
		}
		wantBuiltAgain(t, tables[d.below(len(tables))], p)
	}
	if built < 1000 {
		t.Errorf("only %d programs", built)
	}
}
