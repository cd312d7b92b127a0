package tests

import (
	"fmt"
	"slices"
	"strings"
	"testing"

	"loop.example/s00095/impl"
)

// ran is the outcome of a query to a program, both as texts.
func ran(t *testing.T, program string, query string, most int, fuel int, indexed bool) impl.Outcome {
	t.Helper()
	return impl.RunMachine(impl.DefaultOps(), built(t, program), clauseTerm(query), most, fuel, indexed)
}

// ranAll has enough fuel and answers for most queries.
func ranAll(t *testing.T, program string, query string) impl.Outcome {
	t.Helper()
	return ran(t, program, query, impl.MaxAnswers, impl.MaxFuel, true)
}

func answerText(a impl.Answer) string {
	if len(a.Terms) == 0 {
		return "yes"
	}
	var terms []string
	for _, x := range a.Terms {
		terms = append(terms, string(impl.WriteTerm(impl.DefaultOps(), x, nil, true)))
	}
	return strings.Join(terms, " ")
}

func answersText(answers []impl.Answer) string {
	var all []string
	for _, a := range answers {
		all = append(all, answerText(a))
	}
	return strings.Join(all, "; ")
}

var codeWords = []string{
	impl.CodeOK: "no", impl.CodeBad: "bad", impl.CodeLimit: "limit", impl.CodeCyclic: "cyclic", impl.CodeError: "ball",
	impl.CodeMore: "more", impl.CodeHalt: "halt", impl.CodeFuel: "fuel", impl.CodeMemory: "memory",
}

// told is what a run says: its answers, what ended it, with the ball, and what it wrote.
func told(o impl.Outcome) string {
	parts := []string{codeWords[o.Code]}
	if len(o.Ball) > 0 {
		parts[0] += " " + string(impl.WriteTerm(impl.DefaultOps(), o.Ball, nil, true))
	}
	if len(o.Answers) > 0 {
		parts = append([]string{answersText(o.Answers)}, parts...)
	}
	if len(o.Out) > 0 {
		parts = append(parts, string(o.Out))
	}
	return strings.Join(parts, " | ")
}

// showOutcome tells all that an outcome holds.
func showOutcome(o impl.Outcome) string {
	var answers []string
	for _, a := range o.Answers {
		answers = append(answers, fmt.Sprintf("%d:%s", a.At, showLists(a.Terms)))
	}
	return fmt.Sprintf("code %d answers %v ball %s out %q steps %d choices %d cells %d", o.Code, answers, showCells(o.Ball), o.Out, o.Steps, o.Choices, o.Cells)
}

// runs is a program, a query and what its run says.
type runs struct {
	program string
	query   string
	want    string
}

// wantRuns asks for the same with switches and without, and of the search, which has other limits.
func wantRuns(t *testing.T, cases []runs) {
	t.Helper()
	for _, c := range cases {
		if !strings.HasPrefix(c.want, "limit") && !strings.HasPrefix(c.want, "memory") {
			wantSolved(t, []runs{c})
		}
		for _, indexed := range []bool{true, false} {
			o := ran(t, c.program, c.query, 50, 50000, indexed)
			if got := told(o); got != c.want {
				t.Errorf("%.300s ?- %.300s, indexed %v:\n got %.700s\nwant %.700s", c.program, c.query, indexed, got, c.want)
			}
		}
	}
}

// counts is a program, a query, and the numbers of the outcome of all its answers.
type counts struct {
	program string
	query   string
	steps   int
	choices int
	cells   int
}

func wantCounts(t *testing.T, indexed bool, cases []counts) {
	t.Helper()
	for _, c := range cases {
		o := ran(t, c.program, c.query, impl.MaxAnswers, impl.MaxFuel, indexed)
		if o.Steps != c.steps || o.Choices != c.choices || o.Cells != c.cells {
			t.Errorf("%s ?- %s, indexed %v: steps %d choices %d cells %d, want %d %d %d (%.300s)", c.program, c.query, indexed, o.Steps, o.Choices, o.Cells, c.steps, c.choices, c.cells, told(o))
		}
	}
}

// isZeroBut answers whether an outcome has a code and nothing else.
func isZeroBut(o impl.Outcome, code int) bool {
	return showOutcome(o) == showOutcome(impl.Outcome{Code: code})
}

// isBeginning answers whether a run says the answers and the output of another first.
func isBeginning(less impl.Outcome, more impl.Outcome) bool {
	if len(less.Answers) > len(more.Answers) || !strings.HasPrefix(string(more.Out), string(less.Out)) {
		return false
	}
	show := func(o impl.Outcome) []string {
		var all []string
		for _, a := range o.Answers {
			all = append(all, fmt.Sprintf("%d:%s", a.At, showLists(a.Terms)))
		}
		return all
	}
	return slices.Equal(show(less), show(more)[:len(less.Answers)])
}
