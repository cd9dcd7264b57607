package parse_test

import (
	"reflect"
	"strings"
	"testing"

	"lariat/api"
	"lariat/parse"
	"lariat/word"
)

// P15.1, the section Errors, and texts of any length

// A place is where a text has its fault.
type place struct {
	s         string
	line, col int
}

func exprFaults(t *testing.T, l []place) {
	t.Helper()
	for _, c := range l {
		x, fault := parse.Expr(c.s)
		if !reflect.DeepEqual(x, api.Expr{}) || fault != (api.Fault{Code: api.ErrSyntax, Line: c.line, Col: c.col}) {
			t.Errorf("%.200q: %v %v, not %v %v", c.s, x, fault, c.line, c.col)
		}
	}
}

func sourceFaults(t *testing.T, l []place) {
	t.Helper()
	for _, c := range l {
		m, fault := parse.Source(c.s)
		if !reflect.DeepEqual(m, api.Source{}) || fault != (api.Fault{Code: api.ErrSyntax, Line: c.line, Col: c.col}) {
			t.Errorf("%.200q: %v %v, not %v %v", c.s, m, fault, c.line, c.col)
		}
	}
}

func TestWordsThatCantStandInExprs(t *testing.T) {
	exprFaults(t, []place{
		{"", 1, 1}, {" \n ", 2, 2}, {"// a", 1, 5}, {"a b", 1, 3}, {"a\n1", 2, 1}, {"1 true", 1, 3}, {"a X", 1, 3}, {"a !b", 1, 3}, {"a (b)", 1, 3}, {"(a) b", 1, 5},
		{"()", 1, 2}, {"(", 1, 2}, {")", 1, 1}, {"(a", 1, 3}, {"(a\n\n", 3, 1}, {"(a))", 1, 4}, {"((a)", 1, 5}, {"(a b)", 1, 4}, {"(a;)", 1, 3},
		{"a +", 1, 4}, {"a + )", 1, 5}, {"a + * b", 1, 5}, {"+ a", 1, 1}, {"* a", 1, 1}, {"= a", 1, 1}, {"a & & b", 1, 5}, {"U a", 1, 1}, {"a U U b", 1, 5}, {"S", 1, 1},
		{"-", 1, 2}, {"!", 1, 2}, {"X", 1, 2}, {"X U", 1, 3}, {"! & a", 1, 3}, {"a -", 1, 4}, {"a = -", 1, 6}, {"- )", 1, 3},
		{"var", 1, 1}, {"enum", 1, 1}, {"a & process", 1, 5}, {"bool", 1, 1}, {"a when b", 1, 3}, {"do", 1, 1}, {"- do", 1, 3},
		{";", 1, 1}, {"a ;", 1, 3}, {"a := b", 1, 3}, {"a , b", 1, 3}, {"a .. b", 1, 3}, {"{ a }", 1, 1}, {"a : b", 1, 3}, {"(a, b)", 1, 3}, {"f(a)", 1, 2},
		{"a ! = b", 1, 3}, {"a < = b", 1, 5}, {"a < - > b", 1, 7}, {"a - > b", 1, 5}, {"1 2", 1, 3}, {"true false", 1, 6}, {"a b c d", 1, 3},
	})
}

func TestWordsThatCantStandInEnums(t *testing.T) {
	sourceFaults(t, []place{
		{"enum", 1, 5}, {"enum {", 1, 6}, {"enum var", 1, 6}, {"enum 1", 1, 6}, {"enum X {", 1, 6}, {"enum bool {", 1, 6}, {"enum E", 1, 7}, {"enum E a", 1, 8}, {"enum E (", 1, 8},
		{"enum E {", 1, 9}, {"enum E { }", 1, 10}, {"enum E { 1", 1, 10}, {"enum E { true", 1, 10}, {"enum E { , a", 1, 10}, {"enum E { a", 1, 11}, {"enum E { a b", 1, 12}, {"enum E { a;", 1, 11},
		{"enum E { a,", 1, 12}, {"enum E { a, }", 1, 13}, {"enum E { a, S }", 1, 13}, {"enum E { a, -", 1, 13}, {"enum E { a = 1 }", 1, 12}, {"enum E { a };", 1, 13}, {"enum E { a }\nenum\n", 3, 1}, {"enum E { a var", 1, 12},
	})
}

func TestWordsThatCantStandInVars(t *testing.T) {
	sourceFaults(t, []place{
		{"var", 1, 4}, {"var :", 1, 5}, {"var 1", 1, 5}, {"var true : bool;", 1, 5}, {"var x", 1, 6}, {"var x bool", 1, 7}, {"var x := 1;", 1, 7}, {"var x, y : bool;", 1, 6},
		{"var x :", 1, 8}, {"var x : ;", 1, 9}, {"var x : = 1", 1, 9}, {"var x : (", 1, 9}, {"var x : true", 1, 9}, {"var x : enum", 1, 9}, {"var x : U;", 1, 9}, {"var x : +1..2", 1, 9}, {"var x : {", 1, 9}, {"var x : ..", 1, 9},
		{"var x : 1", 1, 10}, {"var x : 1 = 1", 1, 11}, {"var x : -", 1, 10}, {"var x : - a", 1, 11}, {"var x : - - 1", 1, 11}, {"var x : -..", 1, 10}, {"var x : 1 - 2", 1, 11}, {"var x : (1)..2", 1, 9}, {"var x : a..2", 1, 10},
		{"var x : 1..", 1, 12}, {"var x : 1..;", 1, 12}, {"var x : 1..a", 1, 12}, {"var x : 1..-;", 1, 13}, {"var x : 1..--1;", 1, 13}, {"var x : 1..+1;", 1, 12}, {"var x : 1..2..3;", 1, 13}, {"var x : 1..2 + 1;", 1, 14}, {"var x : 1..bool;", 1, 12},
		{"var x : bool", 1, 13}, {"var x : bool bool", 1, 14}, {"var x : bool := true;", 1, 14}, {"var x : bool, y", 1, 13}, {"var x : E {", 1, 11}, {"var x : bool }", 1, 14},
		{"var x : bool =", 1, 15}, {"var x : bool = ;", 1, 16}, {"var x : bool = a", 1, 17}, {"var x : bool = a b;", 1, 18}, {"var x : bool = (a;", 1, 18}, {"var x : bool = a, b;", 1, 17}, {"var x : bool = a = b = c;", 1, 22}, {"var x : bool = var", 1, 16}, {"var x : 0..9 = 1..2;", 1, 17},
	})
}

func TestWordsThatCantStandInProcesses(t *testing.T) {
	sourceFaults(t, []place{
		{"process", 1, 8}, {"process {", 1, 9}, {"process 1", 1, 9}, {"process do {", 1, 9}, {"process p", 1, 10}, {"process p when", 1, 11}, {"process p;", 1, 10}, {"process p(", 1, 10},
		{"process p {", 1, 12}, {"process p { x", 1, 13}, {"process p { do", 1, 13}, {"process p { ; }", 1, 13}, {"process p { process", 1, 13}, {"process p { x := 1; }", 1, 13}, {"process p { } }", 1, 15},
		{"process p { when", 1, 17}, {"process p { when do", 1, 18}, {"process p { when ;", 1, 18}, {"process p { when }", 1, 18}, {"process p { when a", 1, 19}, {"process p { when a b", 1, 20}, {"process p { when a;", 1, 19}, {"process p { when a }", 1, 20}, {"process p { when (a do", 1, 21}, {"process p { when a := b", 1, 20}, {"process p { when a & do", 1, 22},
		{"process p { when a do", 1, 22}, {"process p { when a do ;", 1, 23}, {"process p { when a do }", 1, 23}, {"process p { when a do 1", 1, 23}, {"process p { when a do , x", 1, 23}, {"process p { when a do true := 1", 1, 23},
		{"process p { when a do x", 1, 24}, {"process p { when a do x = 1;", 1, 25}, {"process p { when a do x : = 1;", 1, 25}, {"process p { when a do x;", 1, 24}, {"process p { when a do x y", 1, 25}, {"process p { when a do (x", 1, 23},
		{"process p { when a do x :=", 1, 27}, {"process p { when a do x := ;", 1, 28}, {"process p { when a do x := 1", 1, 29}, {"process p { when a do x := 1 }", 1, 30}, {"process p { when a do x := 1 when", 1, 30}, {"process p { when a do x := 1 2", 1, 30}, {"process p { when a do x := 1)", 1, 29}, {"process p { when a do x := y := 1;", 1, 30},
		{"process p { when a do x := 1,", 1, 30}, {"process p { when a do x := 1, ;", 1, 31}, {"process p { when a do x := 1, }", 1, 31}, {"process p { when a do x := 1, 2", 1, 31}, {"process p { when a do x := 1, when", 1, 31}, {"process p { when a do x := 1, y", 1, 32}, {"process p { when a do x := 1; ;", 1, 31}, {"process p { when a do x := 1; x", 1, 31}, {"process p { when a do x := 1;", 1, 30},
	})
}

func TestWordsThatCantStandBetweenThem(t *testing.T) {
	sourceFaults(t, []place{
		{"x", 1, 1}, {"1", 1, 1}, {";", 1, 1}, {"bool", 1, 1}, {"when", 1, 1}, {"do", 1, 1}, {"a & b", 1, 1}, {"true", 1, 1}, {"}", 1, 1}, {"(", 1, 1}, {"X", 1, 1}, {"-", 1, 1},
		{"var x : bool; x", 1, 15}, {"var x : bool;;", 1, 14}, {"process p { } ;", 1, 15}, {"process p { } when", 1, 15}, {"enum E { a } , F", 1, 14}, {"enums", 1, 1}, {"\n // \n  Var", 3, 3},
	})
}

// A fault of Cut is told first, wherever it is.
func TestFaultsOfCut(t *testing.T) {
	for i, c := range []struct {
		s    string
		want api.Fault
	}{
		{"@", api.Fault{Code: api.ErrSign, Line: 1, Col: 1}},
		{") ) b @", api.Fault{Code: api.ErrSign, Line: 1, Col: 7}},
		{"a\n\n b . c", api.Fault{Code: api.ErrSign, Line: 3, Col: 4}},
		{"a _b", api.Fault{Code: api.ErrSign, Line: 1, Col: 3}},
		{strings.Repeat("(", 99) + "\n\xc3\xa4", api.Fault{Code: api.ErrSign, Line: 2, Col: 1}},
		{"a b 1000001", api.Fault{Code: api.ErrLong, Line: 1, Col: 5}},
		{"var var " + strings.Repeat("k", 33), api.Fault{Code: api.ErrLong, Line: 1, Col: 9}},
		{strings.Repeat("a", 65537), api.Fault{Code: api.ErrLong, Line: 1, Col: 1}},
		{strings.Repeat(" ", 65536) + "@", api.Fault{Code: api.ErrLong, Line: 1, Col: 1}},
	} {
		if x, fault := parse.Expr(c.s); !reflect.DeepEqual(x, api.Expr{}) || fault != c.want {
			t.Error(i, x, fault)
		}
		if m, fault := parse.Source(c.s); !reflect.DeepEqual(m, api.Source{}) || fault != c.want {
			t.Error(i, m, fault)
		}
		if _, fault := word.Cut(c.s); fault != c.want {
			t.Error(i, fault)
		}
	}
}

// The first word that can't stand is told, not a later one.
func TestFirstFault(t *testing.T) {
	exprFaults(t, []place{{"a b ) ) c", 1, 3}, {"( ) + + (", 1, 3}, {"a = b = c = d", 1, 7}, {"a &\n | ; b", 2, 2}})
	sourceFaults(t, []place{{"var x : bool\nvar y bool\n", 2, 1}, {"enum E { a } x y z", 1, 14}, {"process p { when do ; }", 1, 18}})
}

// No text, however long and deep, is more than a fault.
func TestLongTexts(t *testing.T) {
	long := func(s string) string { return strings.Repeat(s, api.MaxText/len(s)) }
	exprFaults(t, []place{
		{long("("), 1, 62}, {long("!"), 1, 62}, {long("- "), 1, 123}, {long("X("), 1, 62}, {long("a "), 1, 3}, {long(")"), 1, 1}, {long("a+"), 1, 65537}, {long("\n"), 65537, 1},
	})
	for _, s := range []string{"a->", "a*", "a U ", "a->b U ", "a=b->", "(a)&", "!b R ", "a|b&c->d U "} {
		exprFaults(t, []place{{strings.Repeat(s, (api.MaxText-1)/len(s)) + "a", 1, 1}})
	}
	sourceFaults(t, []place{
		{long("var x:bool;"), 1, 32*11 + 1}, {long("enum E{a}"), 1, 32*9 + 1}, {long("process p{}"), 1, 32*11 + 1}, {"enum E{" + long("a,")[:60000], 1, 72},
		{"process p{" + long("when a do x:=1;")[:60000], 1, 10 + 32*15 + 1}, {"process p{when a do " + long("x:=1,")[:60000], 1, 20 + 32*5 + 1}, {"var x:bool=" + long("a->")[:60000] + "a;", 1, 12},
	})
	if m := source(t, long("\n")); !reflect.DeepEqual(m, api.Source{}) {
		t.Error(m)
	}
	s := "process p{when a do x:=" + long(" ")[:65000] + "1;}"
	if m := source(t, s); len(m.Processes) != 1 || m.Processes[0].Rules[0].Do[0].To.Col != 65024 {
		t.Error(m)
	}
}

// Kids of an Expr, and lists of a model, are memory of their own, spare room too.
func TestAnswersAreNew(t *testing.T) {
	s := "a & (b | c) & !d"
	one, _ := parse.Expr(s)
	two, _ := parse.Expr(s)
	spoilExpr(&one)
	if again, _ := parse.Expr(s); !reflect.DeepEqual(two, again) {
		t.Error(two, again)
	}
	s = "enum E { a, b } enum C { a } var x : E = a; var y : 0..1 = 1 + 2; process p { when a & b do x := y, y := x; when a do x := y + 1; } process q { when b do x := 1; }"
	m, n := source(t, s), source(t, s)
	spoilSource(&m)
	if again := source(t, s); !reflect.DeepEqual(n, again) {
		t.Error(n, again)
	}
}

// spoilExpr writes over all Kids in an Expr.
func spoilExpr(x *api.Expr) {
	for i := range x.Kids {
		spoilExpr(&x.Kids[i])
	}
	spoil(x.Kids, api.Expr{Op: 77})
}

// spoil writes over a list, spare room included.
func spoil[T any](l []T, with T) {
	all := l[:cap(l)]
	for i := range all {
		all[i] = with
	}
}

func spoilSource(m *api.Source) {
	for _, e := range m.Enums {
		spoil(e.Values, "spoilt")
	}
	for _, v := range m.Vars {
		spoil(v.Begins, api.Expr{Op: 77})
	}
	for _, p := range m.Processes {
		for _, r := range p.Rules {
			spoil(r.Do, api.Assign{Name: "spoilt"})
		}
		spoil(p.Rules, api.Rule{})
	}
	spoil(m.Enums, api.Enum{Name: "spoilt"})
	spoil(m.Vars, api.Decl{Name: "spoilt"})
	spoil(m.Processes, api.Process{Name: "spoilt"})
}

// What stands behind a list in its spare room is no other list of the answer.
func TestListsOfOneAnswerAreApart(t *testing.T) {
	s := "enum E { a, b, c } enum C { a } process p { when a do x := 1, y := 2, z := 3; when b do x := 1; when c do y := 1, x := 2; } process q { when a do x := 1; }"
	for i := range 6 {
		m, want := source(t, s), source(t, s)
		lists := []func(){
			func() { _ = append(m.Enums[0].Values, "spoilt") },
			func() { _ = append(m.Enums[1].Values, "spoilt") },
			func() { _ = append(m.Processes[0].Rules, api.Rule{}) },
			func() { _ = append(m.Processes[0].Rules[0].Do, api.Assign{}) },
			func() { _ = append(m.Processes[0].Rules[1].Do, api.Assign{}, api.Assign{}) },
			func() { _ = append(m.Enums, api.Enum{}) },
		}
		lists[i]()
		if !reflect.DeepEqual(m, want) {
			t.Error(i, m)
		}
	}
}
