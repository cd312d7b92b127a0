package tests

import (
	"testing"

	"loop.example/s00095/impl"
)

// solved is the outcome of the search for a query in a program, both as texts.
func solved(t *testing.T, program string, query string, most int, fuel int) impl.Outcome {
	t.Helper()
	return impl.Solve(impl.DefaultOps(), built(t, program), clauseTerm(query), most, fuel)
}

// solvedAll has enough fuel and answers for most queries.
func solvedAll(t *testing.T, program string, query string) impl.Outcome {
	t.Helper()
	return solved(t, program, query, impl.MaxAnswers, impl.MaxFuel)
}

// wantSolved asks for what searches say.
func wantSolved(t *testing.T, cases []runs) {
	t.Helper()
	for _, c := range cases {
		if got := told(solved(t, c.program, c.query, 50, 50000)); got != c.want {
			t.Errorf("%.300s ?- %.300s, searched:\n got %.700s\nwant %.700s", c.program, c.query, got, c.want)
		}
	}
}
