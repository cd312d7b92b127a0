package tests

import (
	"fmt"
	"slices"
	"strings"
	"testing"

	"loop.example/s00095/impl"
)

// searchGoal is a goal with the number of choices that a cut in it leaves; or no goal, but a cut down to this number.
type searchGoal struct {
	term    []impl.Cell
	barrier int
	isCut   bool
}

type searchState struct {
	goals  []searchGoal
	answer []impl.Cell
}

// search looks for answers with terms that are put in at once wherever a variable is bound.
type search struct {
	program impl.Program
	now     searchState
	left    []searchState
	next    int // the number of the next new variable
	steps   int
	out     string
	answers []string
}

// searched answers what a query writes and its answers, and whether the search came to its end.
func searched(p impl.Program, query []impl.Cell) (string, bool) {
	s := &search{program: p, next: 1000}
	s.left = []searchState{{goals: []searchGoal{{term: query}}, answer: query}}
	for len(s.left) > 0 {
		last := len(s.left) - 1
		s.now, s.left = s.left[last], s.left[:last]
		for holds := true; holds; s.steps++ {
			if s.steps > 3000 {
				return "", false
			}
			if len(s.now.goals) == 0 {
				s.answers = append(s.answers, string(impl.WriteTerm(impl.DefaultOps(), impl.Renumber(s.now.answer), nil, true)))
				break
			}
			first := s.now.goals[0]
			s.now.goals = s.now.goals[1:]
			holds = s.take(first)
		}
	}
	return s.out + "|" + strings.Join(s.answers, " "), true
}

func (s *search) put(goals ...searchGoal) {
	s.now.goals = append(goals, s.now.goals...)
}

func (s *search) later(goals ...searchGoal) {
	s.left = append(s.left, searchState{goals: append(goals, s.now.goals...), answer: s.now.answer})
}

func (s *search) take(g searchGoal) bool {
	depth := len(s.left)
	if g.isCut {
		s.left = s.left[:min(depth, g.barrier)]
		return true
	}
	name, args := string(g.term[0].Text), argTerms(g.term)
	same := func(x []impl.Cell) searchGoal { return searchGoal{term: x, barrier: g.barrier} }
	switch fmt.Sprintf("%s/%d", name, len(args)) {
	case ",/2":
		s.put(same(args[0]), same(args[1]))
	case "!/0":
		s.left = s.left[:min(depth, g.barrier)]
	case ";/2":
		s.later(same(args[1]))
		if string(args[0][0].Text) == "->" && args[0][0].N == 2 {
			s.ifThen(argTerms(args[0])[0], same(argTerms(args[0])[1]), depth)
		} else {
			s.put(same(args[0]))
		}
	case "->/2":
		s.ifThen(args[0], same(args[1]), depth)
	case `\+/1`:
		s.later()
		s.ifThen(args[0], same(atomTerm("fail")), depth)
	case "call/1":
		body, _ := impl.NormalBody(args[0])
		s.put(searchGoal{term: body, barrier: depth})
	case "$level/1":
		return s.unify(args[0], intTerm(g.barrier))
	case "$mark/1":
		return s.unify(args[0], intTerm(depth))
	case "$cut/1":
		s.left = s.left[:min(depth, args[0][0].N)]
	default:
		return s.call(name, args, g.term)
	}
	return true
}

func (s *search) ifThen(condition []impl.Cell, then searchGoal, depth int) {
	s.put(searchGoal{term: condition, barrier: len(s.left)}, searchGoal{barrier: depth, isCut: true}, then)
}

func (s *search) unify(a []impl.Cell, b []impl.Cell) bool {
	sub, code := impl.Unify(a, b)
	if code != impl.CodeOK {
		return false
	}
	put := func(x []impl.Cell) []impl.Cell {
		made, code := impl.Apply(sub, x)
		if code != impl.CodeOK {
			panic("a term is too great")
		}
		return made
	}
	goals := slices.Clone(s.now.goals)
	for i := range goals {
		if !goals[i].isCut {
			goals[i].term = put(goals[i].term)
		}
	}
	s.now = searchState{goals: goals, answer: put(s.now.answer)}
	return true
}

func (s *search) call(name string, args [][]impl.Cell, goal []impl.Cell) bool {
	if impl.IsBuiltin([]byte(name), len(args)) {
		e, code := impl.Builtin(impl.DefaultOps(), []byte(name), args, s.next)
		s.out += string(e.Out)
		return code == impl.CodeOK && (len(e.Left) == 0 || s.unify(e.Left[0], e.Right[0]))
	}
	for _, q := range s.program.Preds {
		if string(q.Name) == name && q.Arity == len(args) {
			s.tryAll(q.Clauses, goal)
			return false
		}
	}
	panic("no predicate " + name)
}

// tryAll leaves all clauses that can be used as choices, the first of them last.
func (s *search) tryAll(clauses [][]impl.Cell, goal []impl.Cell) {
	before, barrier := s.now, len(s.left)
	for _, clause := range slices.Backward(clauses) {
		fresh := argTerms(shifted(clause, s.next))
		s.next += len(clause)
		s.put(searchGoal{term: fresh[1], barrier: barrier})
		if s.unify(goal, fresh[0]) {
			s.left = append(s.left, s.now)
		}
		s.now = before
	}
}

// meaningFacts are what the bodies of randomControl call.
const meaningFacts = "q(1). q(2). q(3). r(2). r(1). one(X) :- q(X), !. none :- fail. "

// randomControl is a body that writes where it comes, and has no calls of itself.
func randomControl(d *dice, depth int) string {
	leaves := []string{"q(X)", "r(X)", "q(Y)", "r(Y)", "one(Y)", "X = Y", "X = 2", "Y = 3", "write(a)", "write(b)", "write(X)", "!", "!", "!", "true", "none", "fail", "Z = X"}
	if depth == 0 || d.below(6) == 0 {
		return leaves[d.below(len(leaves))]
	}
	part := func() string { return randomControl(d, depth-1) }
	switch d.below(10) {
	case 0, 1, 2:
		return fmt.Sprintf("(%s, %s)", part(), part())
	case 3, 4:
		return fmt.Sprintf("(%s ; %s)", part(), part())
	case 5:
		return fmt.Sprintf("(%s -> %s)", part(), part())
	case 6, 7:
		return fmt.Sprintf("(%s -> %s ; %s)", part(), part(), part())
	case 8:
		return fmt.Sprintf(`\+ %s`, part())
	}
	return fmt.Sprintf("%s(%s)", []string{"once", "call"}[d.below(2)], part())
}

func wantSameMeaning(t *testing.T, src string) bool {
	t.Helper()
	p := built(t, src)
	low, code := impl.LowerProgram(p)
	if code != impl.CodeOK {
		t.Errorf("%s: %d", src, code)
		return false
	}
	query := parsed("p(X0,X1)")
	want, isEnd := searched(p, query)
	got, isLowEnd := searched(low, query)
	if !isEnd || !isLowEnd {
		return false
	}
	if got != want {
		t.Errorf("%s:\n got %s\nwant %s", src, got, want)
	}
	return true
}

func TestLoweredMeansTheSame(t *testing.T) {
	for _, body := range []string{
		"q(X), !, q(Y)", "(q(X) ; Y = 9)", "(q(X), ! ; Y = 9)", "(q(X) -> q(Y) ; Y = 9)", "(none -> q(Y) ; q(X))", "(q(X), r(X) -> true)", "(q(X), X = 2 -> ! ; true)", `\+ none, q(X)`, `\+ q(X)`, `q(X), \+ X = 2`, "q(X), (q(Y), ! ; true)",
		"(q(X) ; q(Y)), !", "((q(X), ! ; Y = 9) -> q(Y))", `\+ (q(X), !, none), q(Y)`, "once((q(X) ; r(Y)))", "(q(X), (X = 2, ! ; true) -> q(Y) ; Y = 9)", "call((q(X), !)), q(Y)", "forall(q(X), r(X))", "forall(r(X), q(X)), q(Y)", "(q(X), (r(X) -> ! ; true) ; Y = 9)", "q(Y), ((q(X) -> (! ; true) ; true) ; X = 9)",
	} {
		if !wantSameMeaning(t, meaningFacts+"p(X, Y) :- "+body+". p(8, 8).") {
			t.Errorf("%s: no answer", body)
		}
	}
}

func TestLoweredMeansTheSameMixed(t *testing.T) {
	d := dice(81)
	compared := 0
	for range 1500 {
		src := meaningFacts + "p(X, Y) :- " + randomControl(&d, 4) + ". p(X, Y) :- " + randomControl(&d, 2) + ". p(8, 8)."
		if wantSameMeaning(t, src) {
			compared++
		}
	}
	if compared < 1200 {
		t.Errorf("only %d programs came to their end", compared)
	}
}

// ends answers the places up to which a grammar's body takes a text from a place on, in the order of the answers.
func ends(rules map[string][]string, x []impl.Cell, text string, from int) []int {
	name, args := string(x[0].Text), argTerms(x)
	if items, end := refItems(x); isEmptyList(end) {
		for _, item := range items {
			if from == len(text) || string(item[0].Text) != text[from:from+1] {
				return nil
			}
			from++
		}
		return []int{from}
	}
	var all []int
	switch {
	case name == ",":
		for _, middle := range ends(rules, args[0], text, from) {
			all = append(all, ends(rules, args[1], text, middle)...)
		}
	case name == "->":
		for _, middle := range ends(rules, args[0], text, from)[:min(1, len(ends(rules, args[0], text, from)))] {
			all = ends(rules, args[1], text, middle)
		}
	case name == ";" && string(args[0][0].Text) == "->":
		if len(ends(rules, argTerms(args[0])[0], text, from)) > 0 {
			return ends(rules, args[0], text, from)
		}
		all = ends(rules, args[1], text, from)
	case name == ";":
		all = append(ends(rules, args[0], text, from), ends(rules, args[1], text, from)...)
	case name == `\+`:
		if len(ends(rules, args[0], text, from)) == 0 {
			all = []int{from}
		}
	case name == "{}":
		if string(args[0][0].Text) == "true" {
			all = []int{from}
		}
	default:
		for _, body := range rules[name] {
			all = append(all, ends(rules, parsed(body), text, from)...)
		}
	}
	return all
}

func randomGrammar(d *dice, depth int) string {
	leaves := []string{"[a]", "[b]", "[]", "[a,b]", "t", "u", "{true}", "{fail}"}
	if depth == 0 || d.below(5) == 0 {
		return leaves[d.below(len(leaves))]
	}
	part := func() string { return randomGrammar(d, depth-1) }
	switch d.below(7) {
	case 0, 1, 2:
		return fmt.Sprintf("(%s, %s)", part(), part())
	case 3:
		return fmt.Sprintf("(%s ; %s)", part(), part())
	case 4:
		return fmt.Sprintf("(%s -> %s)", part(), part())
	case 5:
		return fmt.Sprintf("(%s -> %s ; %s)", part(), part(), part())
	}
	return fmt.Sprintf(`\+ %s`, part())
}

func TestGrammarAccepts(t *testing.T) {
	d := dice(82)
	for range 150 {
		rules := map[string][]string{"t": {"[a]", "[a], [b]"}, "u": {"t, [b]", "[]"}, "s": {randomGrammar(&d, 3), randomGrammar(&d, 2)}}
		var src string
		for _, name := range []string{"s", "t", "u"} {
			for _, body := range rules[name] {
				src += name + " --> " + body + ". "
			}
		}
		p := built(t, src)
		for _, text := range []string{"", "a", "b", "ab", "ba", "aba", "abb", "aab"} {
			query := compTerm("s", charsTerm(text), varTerm(0))
			var want []string
			for _, end := range ends(rules, atomTerm("s"), text, 0) {
				want = append(want, string(impl.WriteTerm(impl.DefaultOps(), compTerm("s", charsTerm(text), charsTerm(text[end:])), nil, true)))
			}
			if got, isEnd := searched(p, query); !isEnd || got != "|"+strings.Join(want, " ") {
				t.Errorf("%s with %q:\n got %s\nwant %s", src, text, got, want)
			}
		}
	}
}

func TestGrammarAcceptsByExamples(t *testing.T) {
	src := `ab --> [a], ab, [b] ; []. first --> [_], !. first --> []. ahead, [X] --> [X]. seen(X) --> ahead, [X]. many([X|L]) --> [X], !, many(L). many([]) --> []. pair(X, Y) --> [X, Y], {X \== Y}. turned, [Y, X] --> [X, Y].`
	p := built(t, src)
	for query, want := range map[string]string{
		"ab([a,a,b,b],[])": "ab([a,a,b,b],[])", "ab([a,b,b],[])": "", "ab([a,b,b],X0)": "ab([a,b,b],[b]) ab([a,b,b],[a,b,b])", "first([x,y],X0)": "first([x,y],[y])", "first([],X0)": "first([],[])",
		"seen(X0,[x,y],X1)": "seen(x,[x,y],[y])", "ahead([x,y],X1)": "ahead([x,y],[x,y])", "many(X0,[x,y],X1)": "many([x,y],[x,y],[])", "pair(X0,X1,[x,y],[])": "pair(x,y,[x,y],[])", "pair(X0,X1,[x,x],[])": "", "turned([x,y,z],X0)": "turned([x,y,z],[y,x,z])",
	} {
		if got, isEnd := searched(p, parsed(query)); !isEnd || got != "|"+want {
			t.Errorf("%s: %s, want %s", query, got, want)
		}
	}
}
