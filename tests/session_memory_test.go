package tests

import (
	"runtime"
	"testing"

	"loop.example/s00095/impl"
)

func sessionTexts() [][2]string {
	return [][2]string{
		{"", "true."}, {appFacts, "app(X, Y, [name, 'other name'])."}, {":- op(700, xfx, likes). name likes 'other name'. :- X = name, write(X), nl.", "Name likes Other, write(Name)."},
		{":- dynamic d/1. d(name). :- assertz(d(name(X, name))).", "d(X)."}, {"p(", "name."}, {"a. 1.", "name."}, {"", "name(name"}, {"", "throw(name(X))."}, {":- halt.", "name."}, {"s --> [name], s. s --> [].", "phrase(s, [name, name], X)."},
	}
}

func TestSessionArguments(t *testing.T) {
	for _, texts := range sessionTexts() {
		want := string(impl.Session([]byte(texts[0]), []byte(texts[1]), 3, 1000))
		program, programStays := roomy(texts[0])
		query, queryStays := roomy(texts[1])
		got := impl.Session(program, query, 3, 1000)
		if string(got) != want || !programStays() || !queryStays() {
			t.Errorf("%q: %q, written into %v %v", texts, got, !programStays(), !queryStays())
		}
		overwrite(program)
		overwrite(query)
		if string(got) != want {
			t.Errorf("%q: the text changes with the arguments", texts)
		}
		program, programStays = roomy(texts[0])
		query, queryStays = roomy(texts[1])
		overwrite(impl.Session(program, query, 3, 1000))
		if !programStays() || !queryStays() {
			t.Errorf("%q: the text is in the memory of an argument", texts)
		}
		if again := string(impl.Session(program, query, 3, 1000)); again != want {
			t.Errorf("%q: another text the second time", texts)
		}
	}
}

func TestConsultMemory(t *testing.T) {
	for _, texts := range append(sessionTexts(), [2]string{machineFacts}, [2]string{"p(name, name). p(name) :- name, name(name). :- name, name. :- name. :- op(200, xfx, [name, m]). q(a name b).", ""}) {
		show := func(p impl.Program, ops []impl.Op) string { return showProgram(p) + showOps(ops) }
		src, stays := roomy(texts[0])
		p, ops, code, at := impl.Consult(src)
		want := show(p, ops)
		if !stays() {
			t.Errorf("%q: written into", texts[0])
		}
		overwrite(src)
		if show(p, ops) != want {
			t.Errorf("%q: it changes with its argument", texts[0])
		}
		src, stays = roomy(texts[0])
		p, ops, _, _ = impl.Consult(src)
		table := showOps(ops)
		wantUnsharedProgram(t, texts[0], p)
		overwriteProgram(p)
		if showOps(ops) != table {
			t.Errorf("%q: the table is in the memory of the program", texts[0])
		}
		wantUnsharedNames(t, texts[0], ops)
		overwriteOps(ops)
		if !stays() {
			t.Errorf("%q: an answer is in the memory of the argument", texts[0])
		}
		p, ops, _, _ = impl.Consult(src)
		program := showProgram(p)
		overwriteOps(ops)
		if showProgram(p) != program {
			t.Errorf("%q: the program is in the memory of the table", texts[0])
		}
		p, ops, againCode, againAt := impl.Consult([]byte(texts[0]))
		if show(p, ops) != want || againCode != code || againAt != at {
			t.Errorf("%q: another answer the second time", texts[0])
		}
	}
}

func lendTexts(texts [][]byte) ([][]byte, func() bool) {
	spare := []byte("spare")
	all := [][]byte{spare}
	var checks []func() bool
	for _, text := range texts {
		lent, check := roomy(string(text))
		all = append(all, lent)
		checks = append(checks, check)
	}
	all = append(all, spare, spare)
	return all[1 : len(texts)+1], allHold(append(checks, func() bool { return string(all[0])+string(all[len(all)-1]) == "sparespare" && len(all) == len(texts)+3 }))
}

func TestFormatMemory(t *testing.T) {
	terms := [][]impl.Cell{atomTerm("name"), parsed("name(X0, 'other name', [name])"), varTerm(3), intTerm(5)}
	want := "X = name,\nName = name(_0,'other name',[name]),\nY = 5"
	names := namesOf("X Name - Y")
	table, tableStays := lendOps(impl.DefaultOps())
	lent, namesStay := lendTexts(names)
	lentTerms, termsStay := lendLists(terms)
	got := impl.FormatAnswer(table, lent, lentTerms)
	if string(got) != want || !tableStays() || !namesStay() || !termsStay() {
		t.Errorf("%q, written into %v %v %v", got, !tableStays(), !namesStay(), !termsStay())
	}
	overwrite(got)
	if !tableStays() || !namesStay() || !termsStay() {
		t.Error("the text is in the memory of an argument")
	}
	got = impl.FormatAnswer(table, lent, lentTerms)
	overwriteOps(table)
	for _, name := range lent {
		overwrite(name)
	}
	for _, x := range lentTerms {
		overwriteCells(x)
	}
	if string(got) != want {
		t.Error("the text changes with the arguments")
	}
	// The text of no answer is new each time, too.
	first := impl.FormatAnswer(impl.DefaultOps(), nil, nil)
	overwrite(first)
	if again := string(impl.FormatAnswer(impl.DefaultOps(), nil, nil)); again != "true" {
		t.Errorf("%q", again)
	}
}

// A name alone is not handed out as the text.
func TestFormatOfOneName(t *testing.T) {
	name := make([]byte, 1, 100)
	name[0] = 'X'
	impl.FormatAnswer(impl.DefaultOps(), [][]byte{name}, [][]impl.Cell{atomTerm("a")})
	if tail := name[:100]; string(tail[1:5]) != "\x00\x00\x00\x00" {
		t.Errorf("%q", tail[:10])
	}
}

// When a session is answered its run has ended, however it ended.
func TestSessionLeavesNothingRunning(t *testing.T) {
	before := runtime.NumGoroutine()
	for range 50 {
		for _, query := range []string{"true.", "p(X).", "p(X), fail.", "loop.", "X = f(X).", "throw(a).", "halt.", "p(X), write(X), nl ; loop."} {
			for _, replies := range []int{0, 1, 99} {
				impl.Session([]byte("p(1). p(2). p(3). loop :- loop."), []byte(query), replies, 200)
			}
		}
	}
	// A run that has sent its last word may be on its way out.
	for range 1000000 {
		if runtime.NumGoroutine() <= before {
			return
		}
		runtime.Gosched()
	}
	t.Errorf("%d goroutines before, %d behind", before, runtime.NumGoroutine())
}

// Sessions know nothing of each other, and may be held at the same time.
func TestSessionsSideBySide(t *testing.T) {
	program, query := []byte(machineFacts+":- assertz(d(x)), write(go)."), []byte("retract(d(X)), assertz(d(f(X))), e(Y, Z), write(X - Y - Z), nl.")
	want := string(impl.Session(program, query, 9, 3000))
	done := make(chan string)
	for range 8 {
		go func() { done <- string(impl.Session(program, query, 9, 3000)) }()
	}
	for range 8 {
		if got := <-done; got != want {
			t.Errorf("got %s\nwant %s", got, want)
		}
	}
}
