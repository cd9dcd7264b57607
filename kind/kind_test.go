package kind_test

import (
	"reflect"
	"slices"
	"strconv"
	"strings"
	"testing"

	"lariat/api"
	"lariat/kind"
	"lariat/parse"
	"lariat/tree"
)

func parsed(t *testing.T, s string) api.Source {
	t.Helper()
	m, fault := parse.Source(s)
	if fault != (api.Fault{}) {
		t.Fatalf("%.300q: %v", s, fault)
	}
	return m
}

func expr(t *testing.T, s string) api.Expr {
	t.Helper()
	x, fault := parse.Expr(s)
	if fault != (api.Fault{}) {
		t.Fatalf("%.300q: %v", s, fault)
	}
	return x
}

// fitting: the model of a text, which has to fit.
func fitting(t *testing.T, s string) api.Model {
	t.Helper()
	m, fault := kind.Model(parsed(t, s))
	if fault != (api.Fault{}) {
		t.Fatalf("%.300q: %v", s, fault)
	}
	return m
}

// A fault is told where a text has `@`; the text is read without it.
type faulty struct {
	code api.Errno
	s    string
}

// marked: a text without its one `@`, and the fault that is where it stood.
func marked(t *testing.T, c faulty) (string, api.Fault) {
	t.Helper()
	ahead, behind, ok := strings.Cut(c.s, "@")
	if !ok || strings.Contains(behind, "@") {
		t.Fatalf("%q", c.s)
	}
	line := ahead[strings.LastIndexByte(ahead, '\n')+1:]
	return ahead + behind, api.Fault{Code: c.code, Line: strings.Count(ahead, "\n") + 1, Col: len(line) + 1}
}

func modelFaults(t *testing.T, l []faulty) {
	t.Helper()
	for _, c := range l {
		s, want := marked(t, c)
		m, fault := kind.Model(parsed(t, s))
		if fault != want || !reflect.DeepEqual(m, api.Model{}) {
			t.Errorf("%.300q: %v, not %v; %v", s, fault, want, m)
		}
		m, x, fault := kind.Read(s, "undeclared")
		if fault != want || !reflect.DeepEqual(m, api.Model{}) || !reflect.DeepEqual(x, api.Expr{}) {
			t.Errorf("%.300q: %v, not %v; %v %v", s, fault, want, m, x)
		}
	}
}

func formulaFaults(t *testing.T, model string, l []faulty) {
	t.Helper()
	m := fitting(t, model)
	for _, c := range l {
		s, want := marked(t, c)
		x, fault := kind.Formula(m, expr(t, s))
		if fault != want || !reflect.DeepEqual(x, api.Expr{}) {
			t.Errorf("%.300q: %v, not %v; %v", s, fault, want, x)
		}
		m, x, fault := kind.Read(model, s)
		if fault != want || !reflect.DeepEqual(m, api.Model{}) || !reflect.DeepEqual(x, api.Expr{}) {
			t.Errorf("%.300q: %v, not %v; %v %v", s, fault, want, m, x)
		}
	}
}

// Types

func leaf(op int, num int64, line, col int) api.Expr {
	return api.Expr{Op: op, Num: num, Line: line, Col: col}
}

func node(op, line, col int, kids ...api.Expr) api.Expr {
	return api.Expr{Op: op, Kids: kids, Line: line, Col: col}
}

// same: are two the same, lists that are nil or empty, too?
func same(a, b any) bool { return reflect.DeepEqual(emptied(a), emptied(b)) }

// emptied: the same, where lists without elements are nil.
func emptied(x any) any {
	switch x := x.(type) {
	case api.Expr:
		return emptiedExpr(x)
	case api.Model:
		m := api.Model{Vars: slices.Concat(x.Vars)}
		for _, e := range x.Enums {
			e.Values = slices.Concat(e.Values)
			m.Enums = append(m.Enums, e)
		}
		for _, move := range x.Moves {
			copied := api.Move{When: emptiedExpr(move.When)}
			for _, s := range move.Do {
				copied.Do = append(copied.Do, api.Set{Var: s.Var, To: emptiedExpr(s.To)})
			}
			m.Moves = append(m.Moves, copied)
		}
		return m
	}
	panic("of another type")
}

func emptiedExpr(x api.Expr) api.Expr {
	kids := x.Kids
	x.Kids = nil
	for _, k := range kids {
		x.Kids = append(x.Kids, emptiedExpr(k))
	}
	return x
}

func TestWholeModel(t *testing.T) {
	got := fitting(t, "var x : -1..3 = -1;\nprocess p { when c = red do x := x + 1, c := green;\n when b do b := !b; }\nenum Color { red, green }\nvar c : Color; process empty { }\nvar b : bool = true;\nprocess q { when true do c := c; }\nenum One { it }\nvar o : One = it;")
	want := api.Model{
		Vars: []api.Var{
			{Name: "x", Kind: 1, Low: -1, High: 3, Begins: true, First: -1},
			{Name: "c", Kind: 3, Enum: "Color", Low: 0, High: 1},
			{Name: "b", Kind: 2, Low: 0, High: 1, Begins: true, First: 1},
			{Name: "o", Kind: 3, Enum: "One", Begins: true},
		},
		Enums: []api.Enum{
			{Name: "Color", Values: []string{"red", "green"}, Line: 4, Col: 6},
			{Name: "One", Values: []string{"it"}, Line: 8, Col: 6},
		},
		Moves: []api.Move{
			{When: node(api.OpEq, 2, 20, leaf(api.OpVar, 1, 2, 18), leaf(api.OpNum, 0, 2, 22)), Do: []api.Set{
				{Var: 0, To: node(api.OpAdd, 2, 36, leaf(api.OpVar, 0, 2, 34), leaf(api.OpNum, 1, 2, 38))},
				{Var: 1, To: leaf(api.OpNum, 1, 2, 46)},
			}},
			{When: leaf(api.OpVar, 2, 3, 7), Do: []api.Set{{Var: 2, To: node(api.OpNot, 3, 17, leaf(api.OpVar, 2, 3, 18))}}},
			{When: leaf(api.OpBool, 1, 7, 18), Do: []api.Set{{Var: 1, To: leaf(api.OpVar, 1, 7, 31)}}},
		},
	}
	if !same(got, want) {
		t.Errorf("%v, not\n%v", got, want)
	}
	if n := kind.States(got); n != 5*2*2*1 {
		t.Error(n)
	}
}

func TestEmptyModel(t *testing.T) {
	for _, s := range []string{"", "// nothing\n", "process p { }"} {
		if m := fitting(t, s); !same(m, api.Model{}) || kind.States(m) != 1 {
			t.Errorf("%q: %v", s, m)
		}
	}
}

// P16.1

func TestNamesOfEnums(t *testing.T) {
	modelFaults(t, []faulty{
		{api.ErrTwice, "enum A { a }\nenum @A { b }"}, {api.ErrTwice, "enum A { a } enum @a { b }"}, {api.ErrTwice, "enum A { a } enum @B { b, A }"}, {api.ErrTwice, "enum A { a } enum @B { b, a }"},
		{api.ErrTwice, "enum @A { A }"}, {api.ErrTwice, "enum @A { a, b, A }"}, {api.ErrTwice, "enum\n @A { a,\n b,\n a }"}, {api.ErrTwice, "enum A { a } enum B { b } enum @C { c, b }"},
		{api.ErrTwice, "enum @A { a, a } enum B { b, b }"},
	})
	if m := fitting(t, "enum A { a, b } enum B { c, d } enum C { aa, Aa, x }"); len(m.Enums) != 3 {
		t.Error(m)
	}
}

func TestNamesOfVars(t *testing.T) {
	modelFaults(t, []faulty{
		{api.ErrTwice, "var x : bool; var @x : 0..1;"}, {api.ErrTwice, "enum E { a } var @E : bool;"}, {api.ErrTwice, "enum E { a } var @a : bool;"}, {api.ErrTwice, "var @a : bool; enum E { a }"},
		{api.ErrTwice, "var x : bool; var y : bool; var @x : nothing = none;"}, {api.ErrTwice, "enum x { y } var @x : 1..0 = true;"},
	})
	fitting(t, "var x : bool; var X1 : bool; var x1 : bool; enum E { e, xx }")
}

func TestTypesOfVars(t *testing.T) {
	modelFaults(t, []faulty{
		{api.ErrName, "var @x : E;"}, {api.ErrName, "var @x : x;"}, {api.ErrName, "enum E { a } var @x : a;"}, {api.ErrName, "var y : bool; var @x : y;"}, {api.ErrName, "process p { } var @x : p;"}, {api.ErrName, "enum E { a } var @x : e = none;"},
		{api.ErrName, "var @x : E = y;"},
	})
	m := fitting(t, "var x : E; enum D { d, dd, ddd } enum E { a, b }")
	if v := m.Vars[0]; v != (api.Var{Name: "x", Kind: api.KindEnum, Enum: "E", High: 1}) {
		t.Error(v)
	}
}

func TestRangesOfVars(t *testing.T) {
	modelFaults(t, []faulty{
		{api.ErrRange, "var @x : 1..0;"}, {api.ErrRange, "var @x : 1000000..-1000000 = none;"}, {api.ErrRange, "var y : 0..0; var @x : -1..-2;"}, {api.ErrRange, "var @x : 5000..4;"},
		{api.ErrMany, "var @x : 0..1024;"}, {api.ErrMany, "var @x : 1..1025 = none;"}, {api.ErrMany, "var @x : -1000000..1000000;"}, {api.ErrMany, "var @x : -512..512;"}, {api.ErrMany, "var y : 0..5; var @x : 0..1024 = 2000;"},
	})
	for _, c := range []struct {
		s    string
		want int64
	}{{"0..1023", 1024}, {"1..1024", 1024}, {"-1023..0", 1024}, {"-1000000..-998977", 1024}, {"998977..1000000", 1024}, {"-512..511", 1024}, {"7..7", 1}, {"-3..-3", 1}} {
		m := fitting(t, "var x : "+c.s+";")
		v := m.Vars[0]
		if kind.States(m) != c.want || v.High-v.Low+1 != c.want || strconv.FormatInt(v.Low, 10)+".."+strconv.FormatInt(v.High, 10) != c.s {
			t.Error(c, v)
		}
	}
}

func TestFaultsOfBegins(t *testing.T) {
	modelFaults(t, []faulty{
		{api.ErrName, "var x : 0..3 = @y;"}, {api.ErrName, "var x : 0..3 = @x;"}, {api.ErrName, "var x : 0..3 = 1 + @x;"}, {api.ErrName, "var x : 0..3 = @y; var y : 0..3;"}, {api.ErrName, "enum E { a } var x : E = @E;"}, {api.ErrName, "process p { } var x : bool = @p;"},
		{api.ErrName, "var y : 0..3 = 1; var x : 0..3 = @y;"}, {api.ErrName, "var y : 0..3; var x : 0..3 = (1 - @y) + y;"}, {api.ErrName, "var y : bool; var z : bool; var x : bool = @z & (y | z);"}, {api.ErrName, "var y : 0..1; var x : bool = (1 = 2) -> (3 < -@y) & (y = y);"},
		{api.ErrKind, "var x : 0..3 = @true;"}, {api.ErrKind, "var x : bool = @1;"}, {api.ErrKind, "enum E { a } var x : 0..3 = @a;"}, {api.ErrKind, "enum E { a } var x : bool = @a;"}, {api.ErrKind, "enum E { a } var x : E = @0;"}, {api.ErrKind, "enum E { a } enum D { d } var x : E = @d;"}, {api.ErrKind, "enum E { a } var x : E = a @= a;"}, {api.ErrKind, "var x : 0..3 = (1) @< 2;"},
		{api.ErrKind, "var y : bool; var x : 0..3 = @y;"}, {api.ErrKind, "var y : 0..3; var x : 0..3 = y @= 1;"}, {api.ErrKind, "var y : 0..3; var x : 0..3 = y @+ true;"}, {api.ErrKind, "var x : bool = @G true;"}, {api.ErrKind, "var x : bool = @Y (1 = 1);"},
		{api.ErrRange, "var x : 0..3 = @4;"}, {api.ErrRange, "var x : 0..3 = @-1;"}, {api.ErrRange, "var x : 0..3 = 2 @+ 2;"}, {api.ErrRange, "var x : -7..-5 = @0;"}, {api.ErrRange, "var x : 1..3 = @- 1;"}, {api.ErrRange, "var x : 5..5 = 2 @* 3;"}, {api.ErrRange, "var x : 0..9 = (1) @- 2;"},
		{api.ErrMany, "var x : 0..3 = 1000 @* 1000000;"}, {api.ErrMany, "var y : 0..1000; var x : 0..3 = y @* 1000000;"}, {api.ErrMany, "var x : 0..3 = (1000 @* 1000000) * 0;"}, {api.ErrMany, "var x : bool = true | (1000 @* 1000000) > none;"},
	})
}

func TestFirstValues(t *testing.T) {
	for _, c := range []struct {
		of, x string
		want  int64
	}{
		{"-9..9", "0", 0}, {"-9..9", "-9", -9}, {"-9..9", "9", 9}, {"-9..9", "- -4", 4}, {"-9..9", "1 - 2 - 3", -4}, {"-9..9", "1 - (2 - 3)", 2}, {"-9..9", "2 + 3 * -2", -4}, {"-9..9", "1000000 * 100 - 100 * 999999 - 99", 1}, {"-9..9", "-3 * -3", 9},
		{"bool", "true", 1}, {"bool", "false", 0}, {"bool", "!true", 0}, {"bool", "!false", 1},
		{"bool", "1 < 2", 1}, {"bool", "2 < 2", 0}, {"bool", "3 < 2", 0}, {"bool", "1 <= 2", 1}, {"bool", "2 <= 2", 1}, {"bool", "3 <= 2", 0}, {"bool", "1 > 2", 0}, {"bool", "2 > 2", 0}, {"bool", "3 > 2", 1}, {"bool", "1 >= 2", 0}, {"bool", "2 >= 2", 1}, {"bool", "3 >= 2", 1},
		{"bool", "1 = 2", 0}, {"bool", "-2 = 0 - 2", 1}, {"bool", "1 != 2", 1}, {"bool", "2 != 2", 0}, {"bool", "a = a", 1}, {"bool", "a = b", 0}, {"bool", "a != b", 1}, {"bool", "true = false", 0}, {"bool", "false = false", 1}, {"bool", "true != false", 1}, {"bool", "true != true", 0},
		{"bool", "false & false", 0}, {"bool", "false & true", 0}, {"bool", "true & false", 0}, {"bool", "true & true", 1}, {"bool", "false | false", 0}, {"bool", "false | true", 1}, {"bool", "true | false", 1}, {"bool", "true | true", 1},
		{"bool", "false -> false", 1}, {"bool", "false -> true", 1}, {"bool", "true -> false", 0}, {"bool", "true -> true", 1}, {"bool", "false <-> false", 1}, {"bool", "false <-> true", 0}, {"bool", "true <-> false", 0}, {"bool", "true <-> true", 1},
		{"E", "a", 0}, {"E", "b", 1}, {"E", "c", 2}, {"D", "d", 0},
	} {
		m := fitting(t, "enum E { a, b, c } enum D { d } var x : "+c.of+" = "+c.x+";")
		if v := m.Vars[0]; v.First != c.want || !v.Begins {
			t.Error(c, v)
		}
	}
}

// ranged: a variable that has so many values.
func ranged(name string, many int) string {
	return "var " + name + " : 1.." + strconv.Itoa(many) + ";\n"
}

func TestManyStates(t *testing.T) {
	four := ranged("a", 1024) + ranged("b", 1024) + ranged("c", 1024) + ranged("d", 1024)
	most := four + ranged("e", 256)
	if m := fitting(t, most); kind.States(m) != 1<<48 {
		t.Error(kind.States(m))
	}
	if m := fitting(t, most+ranged("f", 1)+"enum E { it }\nvar g : E = it;"); kind.States(m) != 1<<48 {
		t.Error(kind.States(m))
	}
	threes := ""
	for i := range 30 {
		threes += ranged("v"+strconv.Itoa(i), 3)
	}
	if m := fitting(t, threes); kind.States(m) != 205891132094649 {
		t.Error(kind.States(m))
	}
	at := func(s string) string { return strings.Replace(s, "var ", "var @", 1) }
	modelFaults(t, []faulty{
		{api.ErrMany, four + at(ranged("e", 257))}, {api.ErrMany, most + at(ranged("f", 2))}, {api.ErrMany, most + ranged("f", 1) + "var @g : bool = true;"}, {api.ErrMany, most + "enum E { x, y } var @g : E;"}, {api.ErrMany, threes + at(ranged("e", 3))}, {api.ErrMany, four + at(ranged("e", 1024)) + ranged("f", 1024)},
		// what it Begins with is told first, and what the next one has last
		{api.ErrKind, four + "var e : 1..257 = @true;"}, {api.ErrRange, four + "var e : 1..257 = @258;"}, {api.ErrMany, four + at(ranged("e", 257)) + "var a : bool; process p { when 1 do x := 1; }"}, {api.ErrMany, four + "var @e : 1..257 = 257;"}, {api.ErrRange, four + "var @e : 1000..0;"},
	})
	all := ""
	for i := range 32 {
		all += "var v" + strconv.Itoa(i) + " : bool;"
	}
	if m := fitting(t, all); kind.States(m) != 1<<32 {
		t.Error(kind.States(m))
	}
}

func TestNamesOfProcesses(t *testing.T) {
	modelFaults(t, []faulty{
		{api.ErrTwice, "process p { }\nprocess @p { }"}, {api.ErrTwice, "process @x { } var x : bool;"}, {api.ErrTwice, "enum E { a } process @E { }"}, {api.ErrTwice, "process @a { } enum E { a }"}, {api.ErrTwice, "process p { } process q { } process @p { when 1 do z := 1; }"},
	})
	fitting(t, "process p { } process q { } process P { }")
}

func TestFaultsOfRules(t *testing.T) {
	head := "enum E { a, b } enum D { d } var x : 0..3; var b1 : bool; var e : E; process p { "
	for _, c := range []faulty{
		{api.ErrKind, "when @1 do x := 1;"}, {api.ErrKind, "when @a do x := 1;"}, {api.ErrKind, "when @x do x := 1;"}, {api.ErrKind, "when (x @- 1) do x := 1;"}, {api.ErrName, "when @y do x := 1;"}, {api.ErrName, "when @p do x := 1;"}, {api.ErrName, "when @E do x := 1;"}, {api.ErrName, "when b1 & @q do x := 1;"},
		{api.ErrKind, "when @G b1 do x := 1;"}, {api.ErrKind, "when b1 @U b1 do x := 1;"}, {api.ErrKind, "when !(@O b1) do x := 1;"}, {api.ErrKind, "when (b1 <-> @X b1) do x := 1;"},
		{api.ErrName, "when b1 do @y := 1;"}, {api.ErrName, "when b1 do @a := 1;"}, {api.ErrName, "when b1 do @E := a;"}, {api.ErrName, "when b1 do @p := 1;"}, {api.ErrName, "when b1 do x := 1, @y := none;"}, {api.ErrName, "when b1 do @y := 1, x := true, x := none;"},
		{api.ErrTwice, "when b1 do x := 1, @x := 1;"}, {api.ErrTwice, "when b1 do x := 1, b1 := b1, @x := none;"}, {api.ErrTwice, "when b1 do e := a, @e := 1;"},
		{api.ErrName, "when b1 do x := @y;"}, {api.ErrName, "when b1 do x := x + (1 - @y);"}, {api.ErrName, "when b1 do x := @p;"}, {api.ErrKind, "when b1 do x := x @+ b1;"}, {api.ErrKind, "when b1 do b1 := @F b1;"},
		{api.ErrKind, "when b1 do x := @true;"}, {api.ErrKind, "when b1 do x := @a;"}, {api.ErrKind, "when b1 do x := @e;"}, {api.ErrKind, "when b1 do b1 := @1;"}, {api.ErrKind, "when b1 do b1 := @a;"}, {api.ErrKind, "when b1 do e := @0;"}, {api.ErrKind, "when b1 do e := @d;"}, {api.ErrKind, "when b1 do e := @b1;"}, {api.ErrKind, "when b1 do e := e @= e;"},
		{api.ErrMany, "when (1000 @* 1000000 > x) do x := 1;"}, {api.ErrMany, "when b1 do x := x - 1000000 @* 1000;"}, {api.ErrMany, "when b1 do x := (x * 1000000) @* 1000;"},
		// the rules in order, of each When first
		{api.ErrKind, "when @1 do y := 1;"}, {api.ErrKind, "when b1 do x := @true; when 1 do y := 1;"}, {api.ErrKind, "when b1 do x := 1; when @1 do y := 1;"}, {api.ErrName, "when b1 do x := 1; } process q { when @q do x := 1; } process p { "},
	} {
		modelFaults(t, []faulty{{c.code, head + c.s + " }"}})
	}
	m := fitting(t, head+"when x = 1 do x := 1000, b1 := true; when true do e := e, b1 := x > 2, x := -x; } process q { when b1 do x := x; }")
	if len(m.Moves) != 3 || m.Moves[1].Do[0].Var != 2 || m.Moves[1].Do[2].Var != 0 {
		t.Error(m.Moves)
	}
}

// Enums come first, then variables, then processes, wherever they stand.
func TestOrderOfFaults(t *testing.T) {
	modelFaults(t, []faulty{
		{api.ErrTwice, "process p { when 1 do y := 1; } var x : none; enum @E { E }"}, {api.ErrName, "process p { when 1 do y := 1; } var @x : none; enum E { a }"}, {api.ErrKind, "process p { when @1 do y := 1; } process p { } var x : bool; enum E { a }"},
		{api.ErrTwice, "var @E : none = none; enum E { a }"}, {api.ErrName, "var @x : none; var y : 1..0;"}, {api.ErrRange, "var @y : 1..0; var x : none;"},
	})
}

// P16.2

// Sorts of Kids, each by an expression of it in that model.
const sortsModel = "enum E { a, b } enum D { d } var x : 0..3; var b1 : bool; var e : E; var e2 : D;"

var sorts = []struct{ x, sort string }{
	{"1", "num"}, {"x", "num"}, {"(1 + x)", "num"}, {"true", "bool"}, {"b1", "bool"}, {"(x < 1)", "bool"}, {"a", "E"}, {"e", "E"}, {"b", "E"}, {"d", "D"}, {"e2", "D"},
}

// wanted: what an op of two Kids of those sorts is, empty, if it can't be; a word of time in a formula.
func wanted(op int, one, two string) string {
	switch op {
	case api.OpMul, api.OpAdd, api.OpSub:
		if one == "num" && two == "num" {
			return "num"
		}
	case api.OpLt, api.OpLe, api.OpGt, api.OpGe:
		if one == "num" && two == "num" {
			return "bool"
		}
	case api.OpEq, api.OpNe:
		if one == two {
			return "bool"
		}
	default:
		if one == "bool" && two == "bool" {
			return "bool"
		}
	}
	return ""
}

func timeWord(op int) bool { return op >= api.OpX && op <= api.OpH || op >= api.OpU && op <= api.OpT }

// check holds an expression against the sort that it should have, empty: ErrKind at the column, in a model and a formula.
func check(t *testing.T, x, sort string, timed bool, line, col int) {
	t.Helper()
	wrong := api.Fault{Code: api.ErrKind, Line: line, Col: col}
	want := wrong
	if sort == "bool" {
		want = api.Fault{}
	}
	if _, _, fault := kind.Read(sortsModel, x); fault != want {
		t.Errorf("%s, a formula: %v, not %v", x, fault, want)
	}
	if timed {
		sort = ""
	}
	for _, v := range []struct{ name, sort string }{{"x", "num"}, {"b1", "bool"}, {"e", "E"}, {"e2", "D"}} {
		want := wrong
		if sort == v.sort {
			want = api.Fault{}
		}
		s := sortsModel + "process p { when true do " + v.name + " :=\n" + x + "; }"
		want.Line *= 2
		if _, fault := kind.Model(parsed(t, s)); fault != want {
			t.Errorf("%s := %s: %v, not %v", v.name, x, fault, want)
		}
	}
}

func TestSortsOfOneKid(t *testing.T) {
	for op := api.OpNeg; op <= api.OpH; op++ {
		for _, c := range sorts {
			sort := ""
			switch {
			case op == api.OpNeg && c.sort == "num":
				sort = "num"
			case op != api.OpNeg && c.sort == "bool":
				sort = "bool"
			}
			check(t, tree.Sign(op)+" "+c.x, sort, timeWord(op), 1, 1)
		}
	}
}

func TestSortsOfTwoKids(t *testing.T) {
	for op := api.OpMul; op <= api.OpIff; op++ {
		for _, c := range sorts {
			for _, d := range sorts {
				check(t, c.x+" "+tree.Sign(op)+" "+d.x, wanted(op, c.sort, d.sort), timeWord(op), 1, len(c.x)+2)
			}
		}
	}
}

func TestSortsOfLeaves(t *testing.T) {
	for _, c := range sorts {
		if !strings.HasPrefix(c.x, "(") {
			check(t, c.x, c.sort, false, 1, 1)
		}
	}
}

const smallModel = "enum E { a, b } enum D { d } var x : 0..3; var y : -1000..-1; var p : bool; var q : bool; var e : E; process pp { }"

func TestKidsComeFirst(t *testing.T) {
	formulaFaults(t, smallModel, []faulty{
		{api.ErrName, "@z"}, {api.ErrName, "@E"}, {api.ErrName, "@pp"}, {api.ErrName, "@xx"}, {api.ErrName, "p & @z"}, {api.ErrName, "@z & z2"}, {api.ErrName, "1 + @z"}, {api.ErrName, "true + @z"}, {api.ErrName, "@z + true"},
		{api.ErrKind, "(1 @& true) = z"}, {api.ErrKind, "(@!1) | z"}, {api.ErrName, "(@z + 1) & (!1)"}, {api.ErrKind, "(@!1) & (1 + true)"}, {api.ErrKind, "(1 @+ true) & (!1)"}, {api.ErrKind, "!(1 @+ true)"}, {api.ErrKind, "G F X (1 @= true)"}, {api.ErrKind, "p -> q -> @!x"}, {api.ErrKind, "p U (q R (x @S p))"},
		{api.ErrName, "G !(p = @z)"}, {api.ErrName, "(X @z) = p"}, {api.ErrKind, "(@- p) = 1"}, {api.ErrKind, "x = (1 @- e)"},
		{api.ErrMany, "(1000 @* 1000000) & true"}, {api.ErrMany, "(1000 @* 1000000 = 1) & z"}, {api.ErrName, "@z & (1000 * 1000000 = 1)"}, {api.ErrMany, "(1000 @* 1000000) + true"}, {api.ErrKind, "(1 @+ true) + (1000 * 1000000)"},
	})
}

func TestWordsOfTimeBelowComparisons(t *testing.T) {
	for op := api.OpX; op <= api.OpT; op++ {
		word := tree.Sign(op) + " p"
		if op >= api.OpU {
			word = "p " + tree.Sign(op) + " q"
		}
		if !timeWord(op) {
			continue
		}
		at := strings.Replace(word, tree.Sign(op), "@"+tree.Sign(op), 1)
		formulaFaults(t, smallModel, []faulty{
			{api.ErrKind, "(" + at + ") = p"}, {api.ErrKind, "p != (" + at + ")"}, {api.ErrKind, "p = !(q & (" + at + "))"}, {api.ErrKind, "G F (p & ((q <-> (p | (" + at + "))) != q))"}, {api.ErrKind, "((p = (" + at + ")) = q) = q"}, {api.ErrKind, "p = (X (" + at + "))"}, {api.ErrKind, "(" + word + ") & (p = (" + at + "))"},
			{api.ErrKind, "(" + word + ") @< (p)"}, {api.ErrKind, "@-(" + word + ")"}, {api.ErrKind, "(" + word + ") @+ 1"},
		})
		for _, s := range []string{word, "(" + word + ") <-> p", "(p = q) & (" + word + ")", "G ((x = 1) -> (" + word + "))", "!(" + word + ") | (e != a)", "X (" + word + ")"} {
			if _, x, fault := kind.Read(smallModel, s); fault != (api.Fault{}) || x.Op == 0 {
				t.Error(s, fault)
			}
		}
		modelFaults(t, []faulty{{api.ErrKind, smallModel + "process p2 { when (" + at + ") <-> p do x := 1; }"}, {api.ErrKind, smallModel + "process p2 { when true do p := " + at + "; }"}})
	}
}

func TestNamesInBegins(t *testing.T) {
	// one's ahead of it has a meaning, so that its kind is told
	modelFaults(t, []faulty{
		{api.ErrKind, "var v : bool; var w : 0..1 = v @+ 1;"}, {api.ErrName, "var w : 0..1 = @v + true; var v : bool;"}, {api.ErrName, "var w : 0..1 = @w + true;"}, {api.ErrName, "var v : bool; var w : bool = (@v -> true) & v;"},
	})
}

// P16.3

func TestEndsOfNumbers(t *testing.T) {
	model := "var x : -3..2; var y : 999990..1000000; var z : -1000000..-999999; var one : 1..1; var s : 0..1000;"
	formulaFaults(t, model, []faulty{
		{api.ErrMany, "100 * 1000000 @+ 1 = 0"}, {api.ErrMany, "-(100 * 1000000) @- 1 = 0"}, {api.ErrMany, "-100 * 1000000 @- one = 0"}, {api.ErrMany, "1000000 @* 1000000 > 0"}, {api.ErrMany, "(100 * 1000000) @+ s = 0"}, {api.ErrMany, "100 * 1000000 @- x = 0"}, {api.ErrMany, "1000000 @* -101 > 0"}, {api.ErrMany, "y @* 101 = 0"}, {api.ErrMany, "z @* 101 = 0"}, {api.ErrMany, "z @* -101 = 0"}, {api.ErrMany, "101 @* z = 0"},
		{api.ErrMany, "((50 * y) @- (51 * z)) = 0"}, {api.ErrMany, "((50 * z) @- (51 * y)) = 0"}, {api.ErrMany, "y * 34 @* x = 0"}, {api.ErrMany, "z * 34 @* x = 0"}, {api.ErrMany, "x @* (34 * y) = 0"}, {api.ErrMany, "y @* y = y * y"}, {api.ErrMany, "y @* z = y"}, {api.ErrMany, "z @* z = y"}, {api.ErrMany, "(s @* 1000000) * 0 = 0"}, {api.ErrMany, "s - s - s - s < (101 @* y)"},
		{api.ErrMany, "(x - x) @* (100 * 1000000) = 0"},
	})
	m := fitting(t, model)
	for _, s := range []string{
		"100 * 1000000 = 0", "-(100 * 1000000) = 0", "-100 * 1000000 = 0", "-100 * 1000000 + x * 0 = 0", "100 * y = 1", "100 * z = 1", "-100 * z = 1", "50 * y - 50 * z = 0", "50 * z - 50 * y = 0", "x * x * x < 9", "y * 33 * x = 0", "z * 33 * x = 0", "100 * 1000000 + (x - 2) = 0", "99 * 1000000 + s * 1000 = 0", "99 * 1000000 + 1000000 + (s - 1000) = 0", "10000 * 10000 = 0", "-(x * (33 * 1000000)) = 0",
		"-(-(100 * 1000000)) = 0", "(x - x) * (20 * 1000000) = 0",
	} {
		if _, fault := kind.Formula(m, expr(t, s)); fault != (api.Fault{}) {
			t.Error(s, fault)
		}
	}
}

// An enum's values aren't whole numbers, and bools aren't.
func TestNoEndsOfOthers(t *testing.T) {
	formulaFaults(t, smallModel, []faulty{{api.ErrKind, "(e = a) @* 1 = 1"}, {api.ErrKind, "a @* 1000000 = 1"}, {api.ErrKind, "(a @< b)"}, {api.ErrKind, "e @= 0"}, {api.ErrKind, "p @= 1"}, {api.ErrKind, "p @= a"}, {api.ErrKind, "d @= a"}, {api.ErrKind, "e @!= d"}})
}

// P16.4

func TestFormula(t *testing.T) {
	formulaFaults(t, smallModel, []faulty{
		{api.ErrKind, "@x"}, {api.ErrKind, "@1"}, {api.ErrKind, "@a"}, {api.ErrKind, "@e"}, {api.ErrKind, "x @+ 1"}, {api.ErrKind, "@-x"}, {api.ErrKind, "(((@x)))"}, {api.ErrKind, "\n\n @x"}, {api.ErrKind, "@G x"}, {api.ErrName, "@nothing"}, {api.ErrMany, "1000 @* 1000000"},
	})
	m := fitting(t, smallModel)
	got, fault := kind.Formula(m, expr(t, "G (p -> F (e = b))\n S (-x < 7 U false)"))
	want := node(api.OpS, 2, 2,
		node(api.OpG, 1, 1, node(api.OpImplies, 1, 6, leaf(api.OpVar, 2, 1, 4), node(api.OpF, 1, 9, node(api.OpEq, 1, 14, leaf(api.OpVar, 4, 1, 12), leaf(api.OpNum, 1, 1, 16))))),
		node(api.OpU, 2, 12, node(api.OpLt, 2, 8, node(api.OpNeg, 2, 5, leaf(api.OpVar, 0, 2, 6)), leaf(api.OpNum, 7, 2, 10)), leaf(api.OpBool, 0, 2, 14)))
	if fault != (api.Fault{}) || !same(got, want) {
		t.Error(fault, got)
	}
	for i, s := range []string{"p", "true", "false", "q", "d = d", "y != x"} {
		if x, fault := kind.Formula(m, expr(t, s)); fault != (api.Fault{}) || i < 4 && x.Num != []int64{2, 1, 0, 3}[i] {
			t.Error(s, fault, x)
		}
	}
}

// A formula's names are the model's alone: what was looked at ahead doesn't count.
func TestFormulaHangsOnItsModel(t *testing.T) {
	one, two := fitting(t, "var u : bool; var w : 0..1;"), fitting(t, "var w : bool; enum E { u }")
	for range 2 {
		if x, fault := kind.Formula(one, expr(t, "u")); fault != (api.Fault{}) || x.Num != 0 {
			t.Error(x, fault)
		}
		if x, fault := kind.Formula(two, expr(t, "u")); fault != (api.Fault{Code: api.ErrKind, Line: 1, Col: 1}) {
			t.Error(x, fault)
		}
		if x, fault := kind.Formula(two, expr(t, "w")); fault != (api.Fault{}) || x.Num != 0 {
			t.Error(x, fault)
		}
		if x, fault := kind.Formula(api.Model{}, expr(t, "w")); fault != (api.Fault{Code: api.ErrName, Line: 1, Col: 1}) {
			t.Error(x, fault)
		}
	}
}

func TestRead(t *testing.T) {
	m, x, fault := kind.Read("var x : 0..3 = 0;", "G (x < 4)")
	if fault != (api.Fault{}) || !same(m, fitting(t, "var x : 0..3 = 0;")) {
		t.Error(m, fault)
	}
	if want := node(api.OpG, 1, 1, node(api.OpLt, 1, 6, leaf(api.OpVar, 0, 1, 4), leaf(api.OpNum, 4, 1, 8))); !same(x, want) {
		t.Error(x)
	}
	for i, c := range []struct {
		model, formula string
		want           api.Fault
	}{
		{"var x : 0..3 = 0;", "G x", api.Fault{Code: api.ErrKind, Line: 1, Col: 1}},
		{"var . x", "@", api.Fault{Code: api.ErrSign, Line: 1, Col: 5}},
		{"var x : 1000001..2;", "@", api.Fault{Code: api.ErrLong, Line: 1, Col: 9}},
		{"var x x", "@", api.Fault{Code: api.ErrSyntax, Line: 1, Col: 7}},
		{"var x : x;", "@", api.Fault{Code: api.ErrName, Line: 1, Col: 5}},
		{"var x : x; y", "true", api.Fault{Code: api.ErrSyntax, Line: 1, Col: 12}},
		{"var x : bool;", " @", api.Fault{Code: api.ErrSign, Line: 1, Col: 2}},
		{"var x : bool;", "x\n= 12345678", api.Fault{Code: api.ErrLong, Line: 2, Col: 3}},
		{"var x : bool;", "y x", api.Fault{Code: api.ErrSyntax, Line: 1, Col: 3}},
		{"var x : bool;", "", api.Fault{Code: api.ErrSyntax, Line: 1, Col: 1}},
		{"var x : bool;", "  y", api.Fault{Code: api.ErrName, Line: 1, Col: 3}},
		{"var x : bool;", "1", api.Fault{Code: api.ErrKind, Line: 1, Col: 1}},
		{"enum E { E }", "1", api.Fault{Code: api.ErrTwice, Line: 1, Col: 6}},
		{strings.Repeat(" ", 65537), "1", api.Fault{Code: api.ErrLong, Line: 1, Col: 1}},
		{"", strings.Repeat(" ", 65537), api.Fault{Code: api.ErrLong, Line: 1, Col: 1}},
	} {
		m, x, fault := kind.Read(c.model, c.formula)
		if fault != c.want || !reflect.DeepEqual(m, api.Model{}) || !reflect.DeepEqual(x, api.Expr{}) {
			t.Error(i, fault, m, x)
		}
	}
}

// The section Errors

func TestErrorsByNumber(t *testing.T) {
	for code, l := range map[api.Errno][2]string{
		131: {"var x : 0..3 = ~1;", "x . 1"}, 132: {"var x : 0..12345678;", "x < 1000001"}, 151: {"var x : 0..3 = ;", "x <"},
		161: {"var y : bool = x;", "y"}, 162: {"var x : bool; var x : bool;", ""}, 163: {"var y : bool = 1;", "x + 1"}, 164: {"var y : 3..0;", ""}, 165: {"var y : 0..1024;", "x * 1000000 * 1000 > 0"},
	} {
		if m, x, fault := kind.Read(l[0], "true"); fault.Code != code || !reflect.DeepEqual(m, api.Model{}) || !reflect.DeepEqual(x, api.Expr{}) {
			t.Error(code, fault, m, x)
		}
		if l[1] == "" {
			continue // no error of formulas
		}
		if m, x, fault := kind.Read("var x : 0..1000;", l[1]); fault.Code != code || !reflect.DeepEqual(m, api.Model{}) || !reflect.DeepEqual(x, api.Expr{}) {
			t.Error(code, fault, m, x)
		}
	}
}

func TestNames(t *testing.T) {
	m := fitting(t, "enum D { dd } enum E { a, b, c } var x : -12..1000; var p : bool; var e : E; var d : D; var z : 7..7;")
	for _, c := range []struct {
		v     int
		value int64
		want  string
	}{
		{0, -12, "-12"}, {0, -13, ""}, {0, 0, "0"}, {0, 999, "999"}, {0, 1000, "1000"}, {0, 1001, ""}, {0, -1 << 63, ""}, {0, 1<<63 - 1, ""},
		{1, 0, "false"}, {1, 1, "true"}, {1, 2, ""}, {1, -1, ""},
		{2, 0, "a"}, {2, 1, "b"}, {2, 2, "c"}, {2, 3, ""}, {2, -1, ""}, {2, 1 << 32, ""}, {3, 0, "dd"}, {3, 1, ""},
		{4, 7, "7"}, {4, 6, ""}, {4, 8, ""}, {4, 0, ""},
		{5, 0, ""}, {-1, 0, ""}, {-1 << 63, 0, ""}, {1<<63 - 1, 0, ""},
	} {
		if s := kind.Names(m, c.v, c.value); s != c.want {
			t.Error(c, s)
		}
	}
	if s := kind.Names(api.Model{}, 0, 0); s != "" {
		t.Error(s)
	}
}
