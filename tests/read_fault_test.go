package tests

import (
	"fmt"
	"strings"
	"testing"

	"loop.example/s00095/impl"
)

func TestReadConstants(t *testing.T) {
	if impl.MaxClauses != 500 {
		t.Errorf("MaxClauses is %d", impl.MaxClauses)
	}
}

func TestReadWithBadTable(t *testing.T) {
	texts := []string{"a.", "", "a b", "'", ":- op(1,xfx,a).", strings.Repeat("a", impl.MaxSource+1), "f(" + strings.Repeat("a,", 30) + "a)."}
	for _, ops := range badTables() {
		for _, src := range texts {
			wantReadFault(t, ops, src, impl.CodeBad, 0)
			wantClausesFault(t, ops, src, impl.CodeBad, 0)
		}
	}
	for _, ops := range goodTables() {
		if clause, code, at := impl.ReadTerm(ops, []byte("'w'(X).")); code != impl.CodeOK || at != 0 || showCells(clause.Term) != showCells(preorder("w/1 X0")) {
			t.Errorf("%.200s: code %d at %d", showOps(ops), code, at)
		}
	}
}

// lexFaults are texts with a fault of each sort, and the code and the offset that Lex tells.
func lexFaults() map[string][2]int {
	return map[string][2]int{
		"a. 'b": {impl.CodeSyntax, 3}, "'b": {impl.CodeSyntax, 0}, "a b. \"c": {impl.CodeSyntax, 5}, "a 12a.": {impl.CodeSyntax, 2}, "a. /* b": {impl.CodeSyntax, 3},
		"f(0'": {impl.CodeSyntax, 2}, "a. `": {impl.CodeSyntax, 3}, "a \x7f.": {impl.CodeSyntax, 2}, "'\\q'.": {impl.CodeSyntax, 0}, "a. \x00": {impl.CodeSyntax, 3},
		"X=1000000000000001.": {impl.CodeLimit, 2}, "-1000000000000001.": {impl.CodeLimit, 1},
		"f(" + strings.Repeat("a", impl.MaxAtom+1) + ").":     {impl.CodeLimit, 2},
		"f(" + strings.Repeat("A", impl.MaxAtom+1) + ").":     {impl.CodeLimit, 2},
		"a =\"" + strings.Repeat("a", impl.MaxAtom+1) + "\".": {impl.CodeLimit, 3},
		"a='" + strings.Repeat("a", impl.MaxAtom+1) + "'.":    {impl.CodeLimit, 2},
		strings.Repeat(" ", impl.MaxSource-1) + "a.":          {impl.CodeLimit, impl.MaxSource},
		strings.Repeat("'", impl.MaxSource+1):                 {impl.CodeLimit, impl.MaxSource},
		") 'b":                                                {impl.CodeSyntax, 2}, ":- op(b, c, d). 0'": {impl.CodeSyntax, 16},
	}
}

// A fault of the tokens comes ahead of all that the reader could say of the tokens before it.
func TestReadLexFaults(t *testing.T) {
	for src, fault := range lexFaults() {
		wantFault(t, src, fault[0], fault[1])
		wantReadFault(t, impl.DefaultOps(), src, fault[0], fault[1])
		wantClausesFault(t, impl.DefaultOps(), src, fault[0], fault[1])
	}
}

func TestReadSourceBounds(t *testing.T) {
	ops := impl.DefaultOps()
	wantRead(t, ops, []reads{{strings.Repeat(" ", impl.MaxSource-3) + "a", "a"}, {strings.Repeat("(", 4998) + "ab" + strings.Repeat(")", 4998), "ab"}})
	wantReadFault(t, ops, strings.Repeat("(", impl.MaxSource), impl.CodeSyntax, impl.MaxSource)
	wantReadFault(t, ops, strings.Repeat("[", impl.MaxSource), impl.CodeSyntax, impl.MaxSource)
	wantReadFault(t, ops, strings.Repeat("a(", impl.MaxSource/2), impl.CodeSyntax, impl.MaxSource)
	wantReadFault(t, ops, strings.Repeat("- ", impl.MaxSource/2), impl.CodeSyntax, impl.MaxSource)
	wantReadFault(t, ops, strings.Repeat("a,", impl.MaxSource/2), impl.CodeSyntax, impl.MaxSource)
}

// At every token that must come and does not, at the end of the text, and behind the end of the term.
func TestReadStops(t *testing.T) {
	wantStops(t, impl.DefaultOps(), []string{
		"¦", "  ¦", "% c\n¦", "¦.", " ¦. a", "¦) .", "¦] .", "¦} .", "¦, .", "¦| .",
		"a¦", "a  ¦", "a % c¦", "a ¦b.", "a ¦1.", "a ¦X.", "a ¦\"b\".", "a ¦(b).", "a¦).", "a¦].", "a¦}.", "1¦.a.", "a ¦:: b.",
		"a. ¦b.", "a. ¦.", "a. ¦)", "a.\n¦a. b.", "a. % c\n ¦b",
		"(¦", "(¦.", "(¦).", "(a¦", "(a¦.", "(a¦].", "(a ¦b).", "(a¦}.", "(a,b¦.", "a=(¦).", "a=(b¦.", "a=(¦",
		"[¦", "[¦.", "[¦,a].", "[¦|a].", "[a¦", "[a¦.", "[a¦).", "[a ¦b].", "[a,¦", "[a,¦].", "[a,¦|b].", "[a|¦", "[a|¦].", "[a|b¦", "[a|b¦.", "[a|b¦|c].",
		"[a|b¦,c].", "[a|b ¦c].", "[a¦:b].", "[¦)",
		"{¦", "{¦.", "{¦).", "{a¦", "{a¦.", "{a¦).", "{a ¦b}.", "{a,¦}.", "{¦,}.",
		"f(¦", "f(¦.", "f(¦).", "f(¦,a).", "f(a¦", "f(a¦.", "f(a¦].", "f(a ¦b).", "f(a,¦", "f(a,¦).", "f(a,¦,b).", "f(a¦|b).", "f(a,b¦", "f(a¦:-b).",
		"-¦", "- ¦)", "-(¦", "-(¦).", "- (¦).", "a=¦", "a= ¦.", "a+¦).", "a:-¦", "a:-b,¦", "a,¦", "a|¦", "a;¦]",
		"[]¦(a).", "{}¦(a).", "X¦(a).", "1¦(a).", "(a)¦(b).", "f(a)¦(b).", "[a]¦[b].", "a ¦[b].", "a ¦{b}.",
	})
}

func argList(n int) string {
	return strings.TrimSuffix(strings.Repeat("a,", n), ",")
}

// greatTexts are terms without their ends, at their bounds and one beyond.
func greatTexts() (kept []string, broken []string) {
	nested := func(cells int) string { return strings.Repeat("f(", cells-1) + "a" + strings.Repeat(")", cells-1) }
	for _, text := range []string{"f(%s)", "g(f(%s))", "[f(%s)]", "- f(%s)", "f(%s)=a", "{f(%s)}", "'-'(%s)"} {
		kept = append(kept, fmt.Sprintf(text, argList(impl.MaxArity)))
		broken = append(broken, fmt.Sprintf(text, argList(impl.MaxArity+1)))
	}
	kept = append(kept, nested(impl.MaxCells), "["+argList(999)+"]", "-["+argList(999)+"]", "["+argList(999)+"|X]",
		strings.Repeat("- ", impl.MaxCells-1)+"a", argList(1000), "1"+strings.Repeat("+1", 999), strings.Repeat("(", 3000)+"a"+strings.Repeat(")", 3000))
	broken = append(broken, nested(impl.MaxCells+1), "["+argList(1000)+"]", "- -["+argList(999)+"]", "["+argList(1000)+"|X]",
		strings.Repeat("- ", impl.MaxCells)+"a", argList(1001), "1"+strings.Repeat("+1", 1000), "1"+strings.Repeat("+1", 4900), strings.Repeat("{", 2001)+strings.Repeat("}", 2001),
		"f("+argList(4900)+")")
	codes := `"` + strings.Repeat("a", 100) + `"`
	text := strings.TrimSuffix(strings.Repeat(codes+",", 9), ",")
	// Nine strings of 100 bytes are 9 * 201 cells, the list of ten adds 11; the tenth may have 179, or 181.
	kept = append(kept, "["+text+`,"`+strings.Repeat("a", 89)+`"]`)
	broken = append(broken, "["+text+`,"`+strings.Repeat("a", 90)+`"]`, "["+strings.Repeat(codes+",", 90)+"a]")
	return kept, broken
}

func TestReadGreatTerms(t *testing.T) {
	ops := impl.DefaultOps()
	kept, broken := greatTexts()
	for _, text := range kept {
		clause, code, at := impl.ReadTerm(ops, []byte("  "+text+" ."))
		if code != impl.CodeOK || at != 0 || !impl.ValidTerm(clause.Term) {
			t.Errorf("%.40q: code %d at %d, %d cells", text, code, at, len(clause.Term))
		}
		clauses, _, code, at := impl.ReadClauses(ops, []byte("  "+text+" ."))
		if code != impl.CodeOK || len(clauses) != 1 || showCells(clauses[0].Term) != showCells(clause.Term) || clauses[0].At != 2 {
			t.Errorf("%.40q: code %d at %d, %d clauses", text, code, at, len(clauses))
		}
	}
	for _, text := range broken {
		wantReadFault(t, ops, text+" .", impl.CodeLimit, 0)
		wantReadFault(t, ops, "  "+text+" .", impl.CodeLimit, 0)
		wantClausesFault(t, ops, "  "+text+" .", impl.CodeLimit, 2)
		wantClausesFault(t, ops, "a.\nb. "+text+" .", impl.CodeLimit, 6)
		// ReadTerm looks at the syntax of all of the text first; ReadClauses goes clause by clause.
		size := len(text)
		wantReadFault(t, ops, text, impl.CodeSyntax, size)
		wantReadFault(t, ops, text+" )", impl.CodeSyntax, size+1)
		wantReadFault(t, ops, text+" . a.", impl.CodeSyntax, size+3)
		wantClausesFault(t, ops, text, impl.CodeSyntax, size)
		wantClausesFault(t, ops, text+" )", impl.CodeSyntax, size+1)
		wantClausesFault(t, ops, text+" . a b.", impl.CodeLimit, 0)
		wantClausesFault(t, ops, "a b. "+text+" .", impl.CodeSyntax, 2)
	}
}
