package tests

import (
	"testing"

	"loop.example/s00095/impl"
)

func memoryTables() [][]impl.Op {
	return [][]impl.Op{
		{comma()}, {comma(), op(200, "fy", "m"), op(500, "yfx", "m"), op(100, "xf", "p")}, impl.DefaultOps(),
		fullTable(impl.MaxOps), {op(1, "xfx", "a")}, {comma(), comma()}, nil,
	}
}

func memoryAdds() []impl.Op {
	return []impl.Op{
		op(700, "xfx", "new"), op(300, "fx", "m"), op(0, "xfx", "m"), op(0, "xfx", "none"), op(200, "xf", "="), op(1, "fy", "|"),
		op(1201, "fy", "a"), op(1, "fy", ""),
	}
}

func TestAddOpArgumentsStay(t *testing.T) {
	for _, ops := range memoryTables() {
		for _, add := range memoryAdds() {
			arg, untouched := lendOps(ops)
			name, nameUntouched := roomy(string(add.Name))
			impl.ValidOps(arg)
			answer, code := impl.AddOp(arg, add.Pri, add.Type, name)
			if !untouched() || !nameUntouched() {
				t.Errorf("%q: an argument is written into", add.Name)
			}
			before := showOps(answer)
			overwriteOps(answer)
			if !untouched() || !nameUntouched() {
				t.Errorf("%q: the answer shares memory with an argument", add.Name)
			}
			overwriteOps(arg)
			overwrite(name)
			again, codeAgain := impl.AddOp(ops, add.Pri, add.Type, add.Name)
			if showOps(again) != before || code != codeAgain {
				t.Errorf("%q: another answer the second time", add.Name)
			}
		}
	}
}

func TestAddOpKeepsNoArgument(t *testing.T) {
	for _, ops := range memoryTables() {
		for _, add := range memoryAdds() {
			arg, name := copyOps(ops), []byte(string(add.Name))
			answer, _ := impl.AddOp(arg, add.Pri, add.Type, name)
			before := showOps(answer)
			overwriteOps(arg)
			overwrite(name)
			if showOps(answer) != before {
				t.Errorf("%q: the answer changes with an argument", add.Name)
			}
		}
	}
}

// wantUnsharedNames overwrites the names of a table one after the other, and asks that no other changes.
func wantUnsharedNames(t *testing.T, what string, ops []impl.Op) {
	t.Helper()
	for i := range ops {
		expected := copyOps(ops)
		for k := range expected[i].Name {
			expected[i].Name[k] ^= 0xff
		}
		overwrite(ops[i].Name)
		if showOps(ops) != showOps(expected) {
			t.Errorf("%s: the name of operator %d is shared", what, i)
			return
		}
	}
}

func TestTablesAreUnshared(t *testing.T) {
	want := showOps(impl.DefaultOps())
	first, second := impl.DefaultOps(), impl.DefaultOps()
	wantUnsharedNames(t, "DefaultOps", first)
	overwriteOps(first)
	if showOps(second) != want || showOps(impl.DefaultOps()) != want {
		t.Errorf("two answers of DefaultOps share memory")
	}
	for _, ops := range memoryTables() {
		for _, add := range memoryAdds() {
			answer, _ := impl.AddOp(ops, add.Pri, add.Type, add.Name)
			wantUnsharedNames(t, "AddOp", answer)
		}
	}
}

func TestWriteArgumentsStay(t *testing.T) {
	terms := append(memoryTerms(), preorder("-/2 m/1 a m/2 'B X0"), preorder("a"), preorder("X0"), preorder("X1"))
	for _, ops := range memoryTables() {
		for _, x := range terms {
			for _, quoted := range []bool{false, true} {
				table, opsUntouched := lendOps(ops)
				arg, termUntouched := lend(x)
				name, nameUntouched := roomy("Name")
				names := [][]byte{name, nil, name}
				text := impl.WriteTerm(table, arg, names[:2], quoted)
				before := string(text)
				overwrite(text)
				if !opsUntouched() || !termUntouched() || !nameUntouched() || len(names[1]) != 0 || len(names[2]) != 4 {
					t.Errorf("%s: an argument is written into, or shared", showCells(x))
				}
				text = impl.WriteTerm(table, arg, names[:2], quoted)
				overwriteOps(table)
				overwriteCells(arg)
				overwrite(name)
				if string(text) != before {
					t.Errorf("%s: the answer changes with an argument, or from call to call", showCells(x))
				}
			}
		}
	}
}
