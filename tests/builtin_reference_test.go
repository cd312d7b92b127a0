package tests

import (
	"slices"
	"strconv"
	"strings"
	"testing"

	"loop.example/s00095/impl"
)

// callStop ends a call of the second reading: by a code alone, or by an F.
type callStop struct {
	code  int
	fault []impl.Cell
}

func stopIf(holds bool, code int) {
	if holds {
		panic(callStop{code: code})
	}
}

func faultIf(holds bool, fault ...[]impl.Cell) {
	if holds {
		f := fault[0]
		if len(fault) > 1 {
			f = compTerm(string(f[0].Text), fault[1:]...)
		}
		panic(callStop{code: impl.CodeError, fault: f})
	}
}

// refCall is a second reading of chapter 7, by cells and by the functions of the chapters before.
type refCall struct {
	args  [][]impl.Cell
	fresh int
}

func isBeyondLimits(x []impl.Cell) bool {
	for _, c := range x {
		if len(c.Text) > impl.MaxAtom {
			return true
		}
	}
	return len(x) > impl.MaxCells
}

func refBuiltin(name string, args [][]impl.Cell, fresh int) (e impl.Effect, code int) {
	defer func() {
		if r := recover(); r != nil {
			stop, ok := r.(callStop)
			if !ok {
				panic(r)
			}
			e, code = impl.Effect{}, stop.code
			if stop.fault != nil {
				e = faultFrom(stop.fault, name, len(args))
			}
		}
		for _, x := range effectLists(e) {
			if isBeyondLimits(x) {
				e, code = impl.Effect{}, impl.CodeLimit
				return
			}
		}
	}()
	c := refCall{args: args, fresh: fresh}
	switch name {
	case "write", "writeq", "print":
		e.Out = impl.WriteTerm(impl.DefaultOps(), impl.Renumber(args[0]), nil, name != "write")
	case "nl":
		e.Out = []byte{10}
	case "tab":
		e.Out = []byte(strings.Repeat(" ", max(0, min(500, refValue(args[0])))))
	default:
		for i, x := range c.asks(name) {
			if i%2 == 0 {
				e.Left = append(e.Left, x)
			} else {
				e.Right = append(e.Right, x)
			}
		}
	}
	return e, impl.CodeOK
}

// asks answers the terms to be unified: left, right, left, ..
func (c refCall) asks(name string) [][]impl.Cell {
	first := func(i int) []impl.Cell { return c.args[i] }
	switch name {
	case "fail", "false":
		stopIf(true, impl.CodeFail)
	case "=":
		return [][]impl.Cell{first(0), first(1)}
	case `\=`:
		_, code := impl.Unify(first(0), first(1))
		stopIf(code == impl.CodeOK, impl.CodeFail)
		stopIf(code != impl.CodeFail && code != impl.CodeCyclic, impl.CodeLimit)
	case "==", `\==`, "@<", "@=<", "@>", "@>=":
		c.related(strings.TrimPrefix(name, "@"), refOrder(first(0), first(1)))
	case "compare":
		return [][]impl.Cell{first(0), atomTerm(string("<=>"[1+refOrder(first(1), first(2))]))}
	case "is":
		return [][]impl.Cell{first(0), intTerm(refValue(first(1)))}
	case "=:=", `=\=`, "<", "=<", ">", ">=":
		x := refValue(first(0))
		y := refValue(first(1))
		c.related(strings.NewReplacer("=:=", "==", `=\=`, `\==`).Replace(name), compareInts(x, y))
	case "functor":
		return c.functor()
	case "arg":
		n := mustInt(first(0))
		mustKind(first(1), "compound", impl.TermComp)
		stopIf(n < 1 || n > first(1)[0].N, impl.CodeFail)
		return [][]impl.Cell{first(2), argTerms(first(1))[n-1]}
	case "=..":
		return c.parts()
	case "copy_term":
		return [][]impl.Cell{first(1), shifted(impl.Renumber(first(0)), c.fresh)}
	case "length":
		return c.length()
	case "atom_length":
		return [][]impl.Cell{first(1), intTerm(len(mustText(first(0))))}
	case "atom_codes", "atom_chars", "char_code", "number_codes":
		return c.spelled(name)
	case "msort", "sort":
		return [][]impl.Cell{first(1), refSorted(mustList(first(0)), name == "sort")}
	default:
		c.kindTest(name)
	}
	return nil
}

func compareInts(x int, y int) int {
	switch {
	case x < y:
		return -1
	case x > y:
		return 1
	}
	return 0
}

func (c refCall) related(relation string, order int) {
	holds := map[string]bool{"==": order == 0, `\==`: order != 0, "<": order == -1, "=<": order != 1, ">": order == 1, ">=": order != -1}[relation]
	stopIf(!holds, impl.CodeFail)
}

func (c refCall) kindTest(name string) {
	x := c.args
	holds := true
	switch name {
	case "true":
		return
	case "is_list":
		_, end := refItems(x[0])
		holds = isEmptyList(end)
	case "ground":
		holds = len(impl.TermVars(x[0])) == 0
	default:
		kinds := map[string]string{"var": "0", "nonvar": "123", "atom": "2", "integer": "1", "atomic": "12", "compound": "3", "callable": "23"}
		holds = strings.Contains(kinds[name], strconv.Itoa(x[0][0].Kind))
	}
	stopIf(!holds, impl.CodeFail)
}

func refValue(x []impl.Cell) int {
	value, code := impl.Eval(x)
	faultIf(code != impl.CodeOK, value)
	return value[0].N
}

// refOrder gives the variables their numbers by hand: both terms together may be too great for Renumber.
func refOrder(a []impl.Cell, b []impl.Cell) int {
	numbers := map[int]int{}
	var numbered [2][]impl.Cell
	for i, x := range [][]impl.Cell{a, b} {
		for _, cell := range copyTerm(x) {
			if cell.Kind == impl.TermVar {
				if _, known := numbers[cell.N]; !known {
					numbers[cell.N] = len(numbers)
				}
				cell.N = numbers[cell.N]
			}
			numbered[i] = append(numbered[i], cell)
		}
	}
	order, _ := impl.CompareTerms(numbered[0], numbered[1])
	return order
}

func isVarTerm(x []impl.Cell) bool {
	return x[0].Kind == impl.TermVar
}

// mustKind takes terms of the given kinds; of a variable it tells that it is one.
func mustKind(x []impl.Cell, kind string, kinds ...int) {
	faultIf(isVarTerm(x), atomTerm(instantiation))
	faultIf(!slices.Contains(kinds, x[0].Kind), atomTerm("type_error"), atomTerm(kind), x)
}

func mustInt(x []impl.Cell) int {
	mustKind(x, "integer", impl.TermInt)
	return x[0].N
}

func mustText(x []impl.Cell) string {
	mustKind(x, "atomic", impl.TermInt, impl.TermAtom)
	return string(impl.WriteTerm(impl.DefaultOps(), x, nil, false))
}

func refItems(x []impl.Cell) (items [][]impl.Cell, end []impl.Cell) {
	for x[0].Kind == impl.TermComp && x[0].N == 2 && string(x[0].Text) == "." {
		size := firstSize(x[1:])
		items, x = append(items, x[1:1+size]), x[1+size:]
	}
	return items, x
}

func mustList(x []impl.Cell) [][]impl.Cell {
	items, end := refItems(x)
	faultIf(isVarTerm(end), atomTerm(instantiation))
	faultIf(!isEmptyList(end), atomTerm("type_error"), atomTerm("list"), x)
	return items
}

// shifted is a term whose variables have numbers that are greater by so much.
func shifted(x []impl.Cell, by int) []impl.Cell {
	y := copyTerm(x)
	for i := range y {
		if y[i].Kind == impl.TermVar {
			y[i].N += by
		}
	}
	return y
}

func (c refCall) functor() [][]impl.Cell {
	whole, name, arity := c.args[0], c.args[1], c.args[2]
	if !isVarTerm(whole) {
		head := copyTerm(whole[:1])
		if head[0].Kind == impl.TermComp {
			head[0].Kind, head[0].N = impl.TermAtom, 0
			return [][]impl.Cell{name, head, arity, intTerm(whole[0].N)}
		}
		return [][]impl.Cell{name, head, arity, intTerm(0)}
	}
	faultIf(isVarTerm(name) || isVarTerm(arity), atomTerm(instantiation))
	n := mustInt(arity)
	faultIf(n < 0, atomTerm("domain_error"), atomTerm("not_less_than_zero"), arity)
	faultIf(n > 20, atomTerm("representation_error"), atomTerm("max_arity"))
	mustText(name)
	if n == 0 {
		return [][]impl.Cell{whole, name}
	}
	mustKind(name, "callable", impl.TermAtom)
	return [][]impl.Cell{whole, compTerm(string(name[0].Text), varsFrom(c.fresh, n)...)}
}

func (c refCall) parts() [][]impl.Cell {
	whole, list := c.args[0], c.args[1]
	if !isVarTerm(whole) {
		items := [][]impl.Cell{whole}
		if whole[0].Kind == impl.TermComp {
			items = manyPartsOf(whole)
		}
		return [][]impl.Cell{list, listTerm(items...)}
	}
	items := mustList(list)
	faultIf(len(items) == 0, atomTerm("domain_error"), atomTerm("non_empty_list"), atomTerm("[]"))
	if len(items) == 1 {
		mustText(items[0])
		return [][]impl.Cell{whole, items[0]}
	}
	mustKind(items[0], "atom", impl.TermAtom)
	faultIf(len(items) > 21, atomTerm("representation_error"), atomTerm("max_arity"))
	return [][]impl.Cell{whole, compTerm(string(items[0][0].Text), items[1:]...)}
}

func (c refCall) length() [][]impl.Cell {
	items, end := refItems(c.args[0])
	if !isVarTerm(end) {
		items = mustList(c.args[0])
		return [][]impl.Cell{c.args[1], intTerm(len(items))}
	}
	d := mustInt(c.args[1]) - len(items)
	stopIf(d < 0, impl.CodeFail)
	faultIf(d > 500, atomTerm("resource_error"), atomTerm("length"))
	return [][]impl.Cell{end, listTerm(varsFrom(c.fresh, d)...)}
}

// byteIn is the byte that an item of a list stands for.
func byteIn(item []impl.Cell, asChar bool) byte {
	faultIf(isVarTerm(item), atomTerm(instantiation))
	if asChar {
		faultIf(item[0].Kind != impl.TermAtom || len(item[0].Text) != 1, atomTerm("type_error"), atomTerm("character"), item)
		return item[0].Text[0]
	}
	faultIf(item[0].Kind != impl.TermInt || item[0].N < 0 || item[0].N > 255, atomTerm("representation_error"), atomTerm("character_code"))
	return byte(item[0].N)
}

func textIn(items [][]impl.Cell, asChars bool) string {
	var text []byte
	for _, item := range items {
		text = append(text, byteIn(item, asChars))
	}
	return string(text)
}

func (c refCall) spelled(name string) [][]impl.Cell {
	a, b := c.args[0], c.args[1]
	switch {
	case name == "char_code" && isVarTerm(a):
		mustInt(b)
		return [][]impl.Cell{a, atomTerm(string([]byte{byteIn(b, false)}))}
	case name == "char_code":
		return [][]impl.Cell{b, intTerm(int(byteIn(a, true)))}
	case name == "number_codes":
		return c.numberSpelled()
	case isVarTerm(a):
		return [][]impl.Cell{a, atomTerm(textIn(mustList(b), name == "atom_chars"))}
	case name == "atom_chars":
		return [][]impl.Cell{b, charsTerm(mustText(a))}
	}
	return [][]impl.Cell{b, codesTerm(mustText(a))}
}

func (c refCall) numberSpelled() [][]impl.Cell {
	n, list := c.args[0], c.args[1]
	items, end := refItems(list)
	if slices.ContainsFunc(items, isVarTerm) || !isEmptyList(end) {
		mustInt(n)
		return [][]impl.Cell{list, codesTerm(mustText(n))}
	}
	text := textIn(items, false)
	toks, code, _ := impl.Lex([]byte(text))
	// What is neither blank nor comment stands at the front, and the tokens are as long as the text.
	long := 0
	for _, tok := range toks {
		long += tok.Len
	}
	kinds := ""
	for _, tok := range toks {
		kinds += strconv.Itoa(tok.Kind) + string(tok.Text)
	}
	faultIf(code != impl.CodeOK || long != len(text) || kinds != "3" && kinds != "1-3", atomTerm("syntax_error"), atomTerm("illegal_number"))
	value := toks[len(toks)-1].N
	if len(toks) == 2 {
		value = -value
	}
	return [][]impl.Cell{n, intTerm(value)}
}

func refSorted(items [][]impl.Cell, isOnce bool) []impl.Cell {
	vars := impl.TermVars(listTerm(items...))
	numbered := impl.Renumber(listTerm(items...))
	sorted, _ := refItems(numbered)
	slices.SortStableFunc(sorted, func(a []impl.Cell, b []impl.Cell) int {
		order, _ := impl.CompareTerms(a, b)
		return order
	})
	if isOnce {
		sorted = slices.CompactFunc(sorted, isSameTerm)
	}
	list := listTerm(sorted...)
	for i := range list {
		if list[i].Kind == impl.TermVar {
			list[i].N = vars[list[i].N]
		}
	}
	return list
}

func isSameTerm(a []impl.Cell, b []impl.Cell) bool {
	return slices.EqualFunc(a, b, func(x impl.Cell, y impl.Cell) bool {
		return x.Kind == y.Kind && x.N == y.N && string(x.Text) == string(y.Text)
	})
}

// isSameEffect tells no more than showEffect would, but of great terms it tells it sooner.
func isSameEffect(a impl.Effect, b impl.Effect) bool {
	return slices.EqualFunc(a.Left, b.Left, isSameTerm) && slices.EqualFunc(a.Right, b.Right, isSameTerm) &&
		isSameTerm(a.Error, b.Error) && string(a.Out) == string(b.Out)
}

func isEmptyList(x []impl.Cell) bool {
	return isSameTerm(x, atomTerm("[]"))
}

func wantAsReference(t *testing.T, name string, args [][]impl.Cell, fresh int) {
	t.Helper()
	e, code := impl.Builtin(impl.DefaultOps(), []byte(name), args, fresh)
	want, wantedCode := refBuiltin(name, args, fresh)
	if code != wantedCode || !isSameEffect(e, want) {
		t.Errorf("%.300s:\n got %.600s\nwant %.600s", showCall(name, args...), showEffect(e, code), showEffect(want, wantedCode))
	}
}

// argumentPool are terms of each sort that some builtin asks for, and those that miss it by a little.
func argumentPool() [][]impl.Cell {
	var pool [][]impl.Cell
	for _, src := range strings.Fields(`X0 X1 X60 -1 0 1 3 20 21 97 256 500 501 1000000000000000 a '' [] ab < - {} f(a) f(X0,X1) f(X1,X0) g(X0) f(X0,X0) 1+2 1//0 1+X0 a+1
		[a] [X0] [X1,X0] [97,98] "7" "-7" [32,55] "7-" [a,b|X0] [a|b] [256] [X0,256] [256,X0] [55|X1] [f,a] [7] [7,a] [X0,a] [f|X0] [g(a)] [g(a),b] [b,a,b,X1,X0,X1,f(X0),f(X1)] {a} '.'(a)`) {
		pool = append(pool, parsed(src))
	}
	return pool
}

func TestBuiltinReferencePairs(t *testing.T) {
	pool := argumentPool()
	for name, arity := range builtinArities {
		switch arity {
		case 0:
			wantAsReference(t, name, nil, 0)
		case 1:
			for _, x := range pool {
				wantAsReference(t, name, [][]impl.Cell{x}, 7)
			}
		case 2:
			for _, x := range pool {
				for _, y := range pool {
					wantAsReference(t, name, [][]impl.Cell{x, y}, 7)
				}
			}
		}
	}
}

func TestBuiltinReferenceTriples(t *testing.T) {
	pool := argumentPool()
	for _, name := range []string{"functor", "arg", "compare"} {
		for i, x := range pool {
			for k, y := range pool {
				// A part of the pool for the last argument, another each time.
				for n := (i + k) % 7; n < len(pool); n += 7 {
					wantAsReference(t, name, [][]impl.Cell{x, y, pool[n]}, 7)
				}
			}
		}
	}
}

// mixedArgument is a term, or a list of terms, numbers, characters or digits, that may end in another way.
func mixedArgument(d *dice) []impl.Cell {
	item := func() []impl.Cell { return randomTerm(d, 1) }
	switch d.below(8) {
	case 0, 1:
		return randomTerm(d, 3)
	case 2:
		return varTerm(d.below(4))
	case 3:
		return intTerm(d.below(24) - 2)
	case 4:
		item = func() []impl.Cell { return intTerm(d.below(258) - 1) }
	case 5:
		item = func() []impl.Cell { return atomTerm(string("ab7-"[d.below(4)])) }
	case 6:
		text := []byte("0123-' x")
		item = func() []impl.Cell { return intTerm(int(text[d.below(len(text))])) }
	}
	var items [][]impl.Cell
	for range d.below(7) {
		items = append(items, item())
	}
	if d.below(6) == 0 {
		items = append(items, varTerm(d.below(4)))
	}
	if d.below(6) == 0 {
		return listEnding(randomTerm(d, 1), items...)
	}
	return listTerm(items...)
}

func TestBuiltinReferenceMixed(t *testing.T) {
	var names []string
	for name := range builtinArities {
		names = append(names, name)
	}
	slices.Sort(names)
	d := dice(75)
	for range 40000 {
		name := names[d.below(len(names))]
		var args [][]impl.Cell
		for range builtinArities[name] {
			args = append(args, mixedArgument(&d))
		}
		fresh := d.below(100)
		if d.below(4) == 0 {
			fresh = impl.MaxVar - fresh
		}
		wantAsReference(t, name, args, fresh)
	}
}

// Great terms are where limits are broken.
func TestBuiltinReferenceGreat(t *testing.T) {
	great := [][]impl.Cell{varTerm(0), intTerm(1), atomTerm("f"), listTerm(manyItems(600, varTerm(1))...), listTerm(manyItems(101, intTerm('7'))...), listTerm(manyItems(100, intTerm('0'))...), listTerm(manyItems(101, atomTerm("x"))...), listEnding(varTerm(2), manyItems(998, atomTerm("x"))...)}
	for _, cells := range []int{impl.MaxCells - errorCells, impl.MaxCells - errorCells + 1, impl.MaxCells} {
		great = append(great, chainTo(cells, varTerm(3)), listEnding(atomTerm("end"), chain(cells-2)))
	}
	for name, arity := range builtinArities {
		for i, x := range great {
			switch arity {
			case 1:
				wantAsReference(t, name, [][]impl.Cell{x}, 7)
			case 2, 3:
				for _, y := range great {
					wantAsReference(t, name, append([][]impl.Cell{x, y}, great[i])[:arity], 7)
				}
			}
		}
	}
}
