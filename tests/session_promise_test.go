package tests

import (
	"fmt"
	"strings"
	"testing"

	"loop.example/s00095/impl"
)

// isSaidFirst answers whether a session that was cut off says what another says first.
func isSaidFirst(cut string, whole string) bool {
	said := cut[:strings.LastIndex(strings.TrimSuffix(cut, "\n"), "\n")+1]
	// An LF may have been put behind what was written so far.
	return strings.HasPrefix(whole, said) || strings.HasPrefix(whole, strings.TrimSuffix(said, "\n"))
}

// wantReckoned asks promise 17: a session is what is reckoned from the search, and from the machine even where this ends
// by fuel, memory, bounds or a cyclic term. It answers the code of the search.
func wantReckoned(t *testing.T, program string, query string, replies int, fuel int) int {
	t.Helper()
	a := askedOf(t, program, query)
	got := string(impl.Session([]byte(program), []byte(query+" ."), replies, fuel))
	run := impl.RunMachine(a.ops, a.program, a.query, replies+1, fuel, true)
	if want := a.refSession(run, replies); got != want {
		t.Errorf("%s ?- %s, %d replies, %d steps:\n got %.1000q\nwant %.1000q", program, query, replies, fuel, got, want)
	}
	search := impl.Solve(a.ops, a.program, a.query, replies+1, min(3*fuel, impl.MaxFuel))
	if isCutOff(search) || run.Code == impl.CodeCyclic {
		return search.Code
	}
	want := a.refSession(search, replies)
	isCut := isCutOff(run) || run.Code == impl.CodeBad
	if !isCut && got != want || isCut && !isSaidFirst(got, want) {
		t.Errorf("%s ?- %s, %d replies, %d steps:\n   got %.1000q\nsearch %.1000q", program, query, replies, fuel, got, want)
	}
	if isCut {
		return impl.CodeFuel
	}
	return search.Code
}

func TestSessionAsSolved(t *testing.T) {
	t.Parallel()
	d := dice(134)
	codes := map[int]int{}
	for range 3000 {
		codes[wantReckoned(t, machineFacts, mixedGoalText(&d, 2+d.below(4)), d.below(10), 3000)]++
		if t.Failed() {
			return
		}
	}
	wantOften(t, codes, impl.CodeOK, impl.CodeError, impl.CodeMore)
}

// writingGoal can be done in several ways, and writes something each time.
func writingGoal(d *dice) string {
	ways := []string{
		"(X = 1 ; X = 2)", "q(X)", "between(1, 3, X)", "d(X)", "r(X, Y)", "app(X, Y, [a, b])", "(q(X), q(Y), X < Y)", "(true ; true)", "(fail ; e(X, Y) ; q(Z))", "phrase(s, [a, a], X)", "(once(q(X)) ; q(Y))", "retract(d(X))",
		"catch(q(X), B, true)", "(q(X), assertz(d(X)))", "(\\+ fail ; X = Y)", "(findall(Y, q(Y), X) ; X = none)", "call(q, X)", "(q(X) -> q(Y) ; q(Z))",
	}
	writes := []string{"write(X)", "writeq(f(X, Y, Z))", "(write(X), nl)", "nl", "(write(a), tab(1))", "(writeq('A b'), nl, write(X))", "write('')", "print([X|Y])"}
	return fmt.Sprintf("%s, %s", ways[d.below(len(ways))], writes[d.below(len(writes))])
}

// mixedSession is a program with so many goals.
func mixedSession(d *dice, facts string, goals int) string {
	for range goals {
		goal := writingGoal(d)
		switch d.below(12) {
		case 0:
			goal = strings.ReplaceAll(mixedGoalText(d, 2), "'$a'", "missing")
		case 1:
			goal = "initialization((" + goal + "))"
		case 2:
			goal = goal + ", !"
		case 3:
			goal = goal + ", fail ; write(last)"
		}
		facts += "\n:- " + goal + "."
	}
	return facts
}

func TestSessionAsSolvedBehindGoals(t *testing.T) {
	t.Parallel()
	for goals := range 6 {
		d := dice(135 + goals)
		codes := map[int]int{}
		for range 500 {
			program := mixedSession(&d, machineFacts, goals)
			query := []string{"q(X)", "X = Y", "true", "r(X, Y), write(X)", writingGoal(&d), writingGoal(&d), mixedGoalText(&d, 1+d.below(3))}[d.below(7)]
			codes[wantReckoned(t, program, query, d.below(6), 5000)]++
			if t.Failed() {
				return
			}
		}
		wantOften(t, codes, impl.CodeOK, impl.CodeMore)
	}
}

func TestSessionAsSolvedPrograms(t *testing.T) {
	t.Parallel()
	d := dice(141)
	codes := map[int]int{}
	for range 300 {
		program := mixedClauses(&d)
		if d.below(2) == 0 {
			program = mixedSession(&d, program+" app([], X, X). r(a, 1). r(b, 2). e(1, 2). s --> [a]. s --> [].", d.below(3))
		}
		for _, query := range []string{"p(X, Y)", "p(f(Z), X), write(X)", "w(f(X)), p(X, Y)", "findall(X - Y, p(X, Y), L)", "_ = X, v(X, _, Z)", mixedGoalText(&d, 3)} {
			codes[wantReckoned(t, program, query, d.below(4), 2000)]++
		}
		if t.Failed() {
			return
		}
	}
	wantOften(t, codes, impl.CodeOK, impl.CodeError, impl.CodeMore)
}

func TestSessionAsSolvedWholePrograms(t *testing.T) {
	t.Parallel()
	for _, c := range append(append(wholePrograms(), promiseRuns()...), memoryRuns()...) {
		for _, replies := range []int{0, 1, 4, impl.MaxAnswers - 1} {
			wantReckoned(t, c.program, c.query, replies, impl.MaxFuel)
			wantReckoned(t, c.program, c.query, replies, 100)
			wantReckoned(t, c.program+" :- (X = 1 ; X = 2), write(X). :- write(Y), nl ; halt.", c.query, replies, impl.MaxFuel)
		}
	}
}

// Of a goal that could be done in several ways there is only one, and it is shown ahead of the first answer.
func TestSessionGoalsAreShownOnce(t *testing.T) {
	const facts = "q(1). q(2). q(3). :- dynamic d/1. d(1). "
	goals := []string{"q(X), write(g(X)), nl", "between(4, 9, X), write(X)", "(write(a) ; write(b))", "assertz(d(2)), (nl ; nl)", "q(X), X > 1, write(X), (true ; write(no))"}
	shown := []string{"g(1)\n", "4", "a", "\n", "2"}
	for n := range len(goals) + 1 {
		program, ahead := facts, ""
		for i, goal := range goals[:n] {
			program += ":- " + goal + ". "
			ahead += shown[i]
		}
		if ahead != "" && !strings.HasSuffix(ahead, "\n") {
			ahead += "\n"
		}
		answers := "X = 1 ;\nX = 2 ;\nX = 3 ;\nfalse."
		wantTalks(t, []talks{
			{program, "q(X)", 9, ahead + answers},
			{program, "q(X)", 0, ahead + "X = 1."},
			{program, "fail", 9, ahead + "false."},
			{program, "throw(x)", 9, ahead + "error: x"},
			{program, "d(X)", 9, ahead + map[bool]string{true: "X = 1 ;\nX = 2 ;\nfalse.", false: "X = 1 ;\nfalse."}[n > 3]},
		})
	}
}

// More replies show the same first, and perhaps more behind it.
func TestSessionMoreReplies(t *testing.T) {
	t.Parallel()
	for _, c := range append(promiseRuns(), wholePrograms()...) {
		session := func(replies int) string {
			return string(impl.Session([]byte(c.program), []byte(c.query+" ."), replies, 3000))
		}
		for replies := range 12 {
			less, more := session(replies), session(replies+1)
			asksOn := strings.TrimSuffix(less, ".\n") + " ;\n"
			if less != more && !strings.HasPrefix(more, asksOn) {
				t.Errorf("%s ?- %s: %d replies %q, one more %q", c.program, c.query, replies, less, more)
			}
		}
	}
}
