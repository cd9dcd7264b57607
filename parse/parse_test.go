package parse_test

import (
	"reflect"
	"slices"
	"strings"
	"testing"

	"lariat/api"
	"lariat/parse"
	"lariat/tree"
)

// expr: how layer 14 writes what a text is.
func expr(t *testing.T, s string) string {
	t.Helper()
	x, fault := parse.Expr(s)
	text, err := tree.Expr(x)
	if fault != (api.Fault{}) || err != api.OK {
		t.Errorf("%.200q: %v %v", s, fault, err)
	}
	return text
}

func exprs(t *testing.T, l [][2]string) {
	t.Helper()
	for _, c := range l {
		if got := expr(t, c[0]); got != c[1] {
			t.Errorf("%q: %q, not %q", c[0], got, c[1])
		}
	}
}

func source(t *testing.T, s string) api.Source {
	t.Helper()
	m, fault := parse.Source(s)
	if fault != (api.Fault{}) {
		t.Errorf("%.200q: %v", s, fault)
	}
	return m
}

// Types: where Exprs, and what has a Name, stand.

func leaf(op int, num int64, name string, line, col int) api.Expr {
	return api.Expr{Op: op, Num: num, Name: name, Line: line, Col: col}
}

func node(op, line, col int, kids ...api.Expr) api.Expr {
	return api.Expr{Op: op, Kids: kids, Line: line, Col: col}
}

func TestWhereExprsStand(t *testing.T) {
	for i, c := range []struct {
		s    string
		want api.Expr
	}{
		{" a", leaf(api.OpName, 0, "a", 1, 2)},
		{"\n  12", leaf(api.OpNum, 12, "", 2, 3)},
		{"true", leaf(api.OpBool, 1, "", 1, 1)},
		{"//\n\tfalse", leaf(api.OpBool, 0, "", 2, 2)},
		{"( ( a ) )", leaf(api.OpName, 0, "a", 1, 5)},
		{"- 1", node(api.OpNeg, 1, 1, leaf(api.OpNum, 1, "", 1, 3))},
		{"a\n + 1", node(api.OpAdd, 2, 2, leaf(api.OpName, 0, "a", 1, 1), leaf(api.OpNum, 1, "", 2, 4))},
		{"(a->b)", node(api.OpImplies, 1, 3, leaf(api.OpName, 0, "a", 1, 2), leaf(api.OpName, 0, "b", 1, 5))},
		{"!(a & b) U X\nc", node(api.OpU, 1, 10,
			node(api.OpNot, 1, 1, node(api.OpAnd, 1, 5, leaf(api.OpName, 0, "a", 1, 3), leaf(api.OpName, 0, "b", 1, 7))),
			node(api.OpX, 1, 12, leaf(api.OpName, 0, "c", 2, 1)))},
		{"a - b - c", node(api.OpSub, 1, 7,
			node(api.OpSub, 1, 3, leaf(api.OpName, 0, "a", 1, 1), leaf(api.OpName, 0, "b", 1, 5)), leaf(api.OpName, 0, "c", 1, 9))},
		{"a S b S c", node(api.OpS, 1, 3, leaf(api.OpName, 0, "a", 1, 1),
			node(api.OpS, 1, 7, leaf(api.OpName, 0, "b", 1, 5), leaf(api.OpName, 0, "c", 1, 9)))},
	} {
		if x, fault := parse.Expr(c.s); !reflect.DeepEqual(x, c.want) || fault != (api.Fault{}) {
			t.Error(i, x, fault)
		}
	}
}

func TestWhereAllElseStands(t *testing.T) {
	got := source(t, "enum\n E {\n a, b }\nvar  x\n: E = a; var y : -2 .. 3;\nprocess  p {\n when true\n do x\n := b,y:=1; }")
	want := api.Source{
		Enums: []api.Enum{{Name: "E", Values: []string{"a", "b"}, Line: 2, Col: 2}},
		Vars: []api.Decl{
			{Name: "x", Type: "E", Begins: []api.Expr{leaf(api.OpName, 0, "a", 5, 7)}, Line: 4, Col: 6},
			{Name: "y", Low: -2, High: 3, Line: 5, Col: 14},
		},
		Processes: []api.Process{{Name: "p", Line: 6, Col: 10, Rules: []api.Rule{{
			When: leaf(api.OpBool, 1, "", 7, 7),
			Do: []api.Assign{
				{Name: "x", To: leaf(api.OpName, 0, "b", 9, 5), Line: 8, Col: 5},
				{Name: "y", To: leaf(api.OpNum, 1, "", 9, 10), Line: 9, Col: 7},
			},
		}}}},
	}
	if !reflect.DeepEqual(got, want) {
		t.Errorf("%v, not\n%v", got, want)
	}
}

// P15.2

func TestValues(t *testing.T) {
	exprs(t, [][2]string{
		{"0", "0"}, {"007", "7"}, {"1000000", "1000000"}, {"true", "true"}, {"false", "false"},
		{"a", "a"}, {"Xa", "Xa"}, {"trues", "trues"}, {"(a)", "a"}, {"((( 1 )))", "1"}, {"(((a))+1)", "a + 1"},
	})
}

func TestSignsAheadOfValues(t *testing.T) {
	exprs(t, [][2]string{
		{"-1", "-1"}, {"- - 1", "-(-1)"}, {"--1", "-(-1)"}, {"!b", "!b"}, {"!!b", "!(!b)"},
		{"X a", "X a"}, {"F a", "F a"}, {"G a", "G a"}, {"Y a", "Y a"}, {"Z a", "Z a"}, {"O a", "O a"}, {"H a", "H a"},
		{"X(a)", "X a"}, {"G F a", "G (F a)"}, {"Y!Z-O a", "Y (!(Z (-(O a))))"}, {"H(a & b)", "H (a & b)"}, {"-(1)", "-1"},
	})
}

func TestSignsAheadBindClosest(t *testing.T) {
	for ahead := range aheadOps {
		for between := range betweenOps {
			want := "(" + expr(t, ahead+" a") + ") " + between + " b"
			exprs(t, [][2]string{{ahead + " a " + between + " b", want}})
			want = "a " + between + " (" + expr(t, ahead+" b") + ")"
			exprs(t, [][2]string{{"a " + between + " " + ahead + "(b)", want}})
		}
	}
}

// byLine: the signs between two values, each with its line, those that bind closest last.
func byLine() (l []string, of []int) {
	for i, line := range lines {
		for _, sign := range strings.Fields(line.signs) {
			l, of = append(l, sign), append(of, i)
		}
	}
	return l, of
}

func TestWhatBindsClosest(t *testing.T) {
	l, of := byLine()
	if len(l) != 17 {
		t.Fatal(l)
	}
	for i, one := range l {
		for j, two := range l {
			first, second := "(a "+one+" b) "+two+" c", "a "+one+" (b "+two+" c)"
			want := first
			if of[i] < of[j] || of[i] == of[j] && lines[of[i]].last {
				want = second
			}
			if of[i] == of[j] && lines[of[i]].signs[0] == '=' {
				continue
			}
			exprs(t, [][2]string{{"a " + one + " b " + two + " c", want}, {first, first}, {second, second}})
		}
	}
}

func TestOfOneLine(t *testing.T) {
	exprs(t, [][2]string{
		{"a - b + c - d", "((a - b) + c) - d"}, {"a * b * c", "(a * b) * c"},
		{"a & b & c & d", "((a & b) & c) & d"}, {"a | b | c", "(a | b) | c"}, {"a <-> b <-> c", "(a <-> b) <-> c"},
		{"a U b R c S d T e", "a U (b R (c S (d T e)))"}, {"a -> b -> c -> d", "a -> (b -> (c -> d))"},
		{"a + b * 2 = c & !d", "((a + (b * 2)) = c) & (!d)"},
		{"a -> b <-> c -> d <-> e", "((a -> b) <-> (c -> d)) <-> e"},
		{"a <-> b -> c | d & e U f = g + h * i", "a <-> (b -> (c | (d & (e U (f = (g + (h * i)))))))"},
		{"a * b + c = d U e & f | g -> h <-> i", "(((((((a * b) + c) = d) U e) & f) | g) -> h) <-> i"},
		{"a U b * c U d", "a U ((b * c) U d)"}, {"a * b U c * d", "(a * b) U (c * d)"}, {"a U b & c U d", "(a U b) & (c U d)"},
	})
}

func TestOneComparison(t *testing.T) {
	l := strings.Fields(lines[5].signs)
	for _, one := range l {
		exprs(t, [][2]string{
			{"a" + one + "b", "a " + one + " b"},
			{"(a" + one + "b)" + one + "c", "(a " + one + " b) " + one + " c"},
			{"a" + one + "(b" + one + "c)", "a " + one + " (b " + one + " c)"},
			{"a" + one + "b U c" + one + "d", "(a " + one + " b) U (c " + one + " d)"},
			{"a" + one + "b<->c" + one + "d&e" + one + "f", "(a " + one + " b) <-> ((c " + one + " d) & (e " + one + " f))"},
			{"a+1" + one + "-b*2", "(a + 1) " + one + " ((-b) * 2)"},
		})
		for _, two := range l {
			exprFaults(t, []place{
				{"a " + one + " b " + two + " c", 1, len(one) + 6},
				{"(a " + one + " b " + two + " c)", 1, len(one) + 7},
				{"a + 1 " + one + " b - 1 " + two + " c", 1, len(one) + 14},
				{"x & a " + one + " -b\n" + two + " c", 2, 1},
				{"a " + one + " (b & c) " + two + " d", 1, len(one) + 12},
				{"a " + one + " b " + two, 1, len(one) + 6},
			})
		}
	}
}

// P15.3

func TestSourcesOfEachPart(t *testing.T) {
	for _, c := range [][2]string{
		{"", ""}, {" // none\n\n", ""},
		{"enum E{a}", "enum E { a }\n"}, {"enum E { a , b,c }", "enum E { a, b, c }\n"},
		{"var x:0..0;", "var x : 0..0;\n"}, {"var x : - 3 .. - 1 = -2 ;", "var x : -3..-1 = -2;\n"}, {"var x : 5..-5;", "var x : 5..-5;\n"},
		{"var x : 1000000..-1000000;", "var x : 1000000..-1000000;\n"}, {"var x : -0..1;", "var x : 0..1;\n"},
		{"var x:bool;", "var x : bool;\n"}, {"var x:bool=true&false;", "var x : bool = true & false;\n"},
		{"var x:E;", "var x : E;\n"}, {"var x:E=a;", "var x : E = a;\n"}, {"var x:E=G a U b;", "var x : E = (G a) U b;\n"},
		{"process p{}", "process p {\n}\n"},
		{"process p{when a do x:=1;}", "process p {\n  when a do x := 1;\n}\n"},
		{"process p{when a&b do x:=1,y:=-x,x:=x->y;when (c)do z:=2;}", "process p {\n  when a & b do x := 1, y := -x, x := x -> y;\n  when c do z := 2;\n}\n"},
	} {
		if got, err := tree.Source(source(t, c[0])); got != c[1] || err != api.OK {
			t.Errorf("%q: %q %v", c[0], got, err)
		}
	}
}

func TestSourcesInAnyOrder(t *testing.T) {
	parts := []string{"enum E { a }\n", "var x : E;\n", "process p {\n}\n", "enum C { a }\n", "var y : bool;\n", "process q {\n}\n"}
	want := "enum C { a }\nenum E { a }\nvar x : E;\nvar y : bool;\nprocess p {\n}\nprocess q {\n}\n"
	for range 6 {
		parts = append(parts[1:], parts[0])
		m := source(t, strings.Join(parts, ""))
		if len(m.Enums) != 2 || len(m.Vars) != 2 || len(m.Processes) != 2 {
			t.Error(m)
		}
		slices.SortFunc(m.Enums, func(a, b api.Enum) int { return strings.Compare(a.Name, b.Name) })
		slices.SortFunc(m.Vars, func(a, b api.Decl) int { return strings.Compare(a.Name, b.Name) })
		slices.SortFunc(m.Processes, func(a, b api.Process) int { return strings.Compare(a.Name, b.Name) })
		if got, _ := tree.Source(m); got != want {
			t.Error(got)
		}
	}
	if m := source(t, "var b : 0..1; var a : 0..1; enum B { b, a } enum A { b } process q { } process p { }"); m.Vars[0].Name != "b" || m.Enums[0].Name != "B" || m.Enums[0].Values[0] != "b" || m.Processes[0].Name != "q" {
		t.Error("as they come:", m)
	}
}

// Names may stand twice, ranges be empty, and values be of any kind: of that layer 16 tells.
func TestSourcesThatDontFit(t *testing.T) {
	m := source(t, "enum E { a, a } enum E { a } var E : 3..1 = true; var E : None = 1 U x; process E { when 1 do none := G 2; }")
	if len(m.Enums) != 2 || len(m.Vars) != 2 || m.Vars[0].Low != 3 || m.Vars[0].High != 1 || m.Vars[1].Type != "None" {
		t.Error(m)
	}
}

// lists are those of which there are at most 32 things: a text with so many, each on a line of its own, and how many a model has.
var lists = []func(n int) (s string, count func(m api.Source) int){
	func(n int) (string, func(m api.Source) int) {
		return strings.Repeat("enum E { a }\n", n), func(m api.Source) int { return len(m.Enums) }
	},
	func(n int) (string, func(m api.Source) int) {
		return strings.Repeat("var x : bool;\n", n), func(m api.Source) int { return len(m.Vars) }
	},
	func(n int) (string, func(m api.Source) int) {
		return strings.Repeat("process p { }\n", n), func(m api.Source) int { return len(m.Processes) }
	},
	func(n int) (string, func(m api.Source) int) {
		return "process p {" + strings.Repeat("when a do x := 1;\n", n) + "}", func(m api.Source) int { return len(m.Processes[0].Rules) }
	},
	func(n int) (string, func(m api.Source) int) {
		return "enum E {" + strings.Repeat("a,\n", n-1) + "a }", func(m api.Source) int { return len(m.Enums[0].Values) }
	},
	func(n int) (string, func(m api.Source) int) {
		return "process p { when a do x := 1, y := 1; when b do " + strings.Repeat("x := 1,\n", n-1) + "x := 1; }", func(m api.Source) int { return len(m.Processes[0].Rules[1].Do) }
	},
}

func TestListsAtTheirLimit(t *testing.T) {
	for i, list := range lists {
		for n := 30; n < 40; n++ {
			s, count := list(n)
			if n <= 32 {
				if got := count(source(t, s)); got != n {
					t.Error(i, n, got)
				}
			} else {
				sourceFaults(t, []place{{s, 33, 1}})
			}
		}
	}
}

// Each limit is one list's alone.
func TestFullLists(t *testing.T) {
	var b strings.Builder
	for _, list := range lists[:3] {
		s, _ := list(30)
		b.WriteString(s)
	}
	for _, list := range lists[3:] {
		s, _ := list(32)
		b.WriteString(s)
	}
	s := b.String() + "enum E { a }\n"
	m := source(t, s)
	if len(m.Enums) != 32 || len(m.Vars) != 30 || len(m.Processes) != 32 {
		t.Error(len(m.Enums), len(m.Vars), len(m.Processes))
	}
	line := strings.Count(s, "\n") + 1
	sourceFaults(t, []place{{s + "enum", line, 1}, {s + "var", line, 4}, {s + "process", line, 1}})
}

// P15.4

func TestBracketsAtTheirLimit(t *testing.T) {
	exprs(t, [][2]string{
		{strings.Repeat("(", 60) + "a" + strings.Repeat(")", 60), "a"},
		{strings.Repeat("(", 60) + "a" + strings.Repeat(")", 60) + "+" + strings.Repeat("(", 60) + "b" + strings.Repeat(")", 60), "a + b"},
		{strings.Repeat("(", 60) + "a + b" + strings.Repeat(")", 60), "a + b"},
		{strings.Repeat("(", 59) + "-a" + strings.Repeat(")", 59) + " & !b", "(-a) & (!b)"},
		{"G" + strings.Repeat("(", 59) + "a" + strings.Repeat(")", 59) + "&" + strings.Repeat("(", 60) + "b" + strings.Repeat(")", 60), "(G a) & b"},
	})
	for i, s := range []string{
		strings.Repeat("(", 61), strings.Repeat("(", 61) + "a" + strings.Repeat(")", 61), strings.Repeat("(", 99), strings.Repeat("(", 61) + ")",
		strings.Repeat("!", 61), strings.Repeat("-", 61) + "1", strings.Repeat("!", 99), strings.Repeat("-", 61) + "+",
		strings.Repeat("!", 60) + "(a)", strings.Repeat("(", 60) + "!a", strings.Repeat("(!-", 20) + "(1", strings.Repeat("(", 60) + "-1)",
	} {
		if _, fault := parse.Expr(s); fault != (api.Fault{Code: api.ErrSyntax, Line: 1, Col: 62}) {
			t.Error(i, fault)
		}
	}
}

// What was open is so no longer, when it has been read.
func TestBracketsOneBehindAnother(t *testing.T) {
	deep := strings.Repeat("(", 60) + "a" + strings.Repeat(")", 60)
	signs := strings.Repeat("!", 58) + "a"
	if _, fault := parse.Expr(strings.Repeat("(a) & !b | (", 40) + "c" + strings.Repeat(")", 40)); fault != (api.Fault{}) {
		t.Error(fault)
	}
	source(t, "var x : bool = "+deep+"; var y : bool = "+signs+"; process p { when "+deep+" do x := "+deep+", y := "+signs+" & "+deep+"; }")
	sourceFaults(t, []place{
		{"process p { when " + deep + " do x := " + deep + ",\n y := !" + deep + "; }", 2, 68},
		{"var x : bool = " + deep + ";\nvar y : bool = (" + deep + ");", 2, 77},
	})
}

func TestLevelsAtTheirLimit(t *testing.T) {
	for _, n := range []int{1, 30, 58, 59, 60, 61, 100, 1000, 10000} {
		for _, s := range []string{strings.Repeat("a+", n) + "a", strings.Repeat("a->", n) + "a", strings.Repeat("a U ", n) + "a", "a" + strings.Repeat("*a", n), "a" + strings.Repeat("|a", n)} {
			x, fault := parse.Expr(s)
			if n <= 59 && (fault != (api.Fault{}) || levels(x) != n+1) {
				t.Error(n, s[:5], fault)
			}
			if n > 59 && (!reflect.DeepEqual(x, api.Expr{}) || fault != (api.Fault{Code: api.ErrSyntax, Line: 1, Col: 1})) {
				t.Error(n, s[:5], fault)
			}
		}
	}
	exprFaults(t, []place{
		{strings.Repeat("!", 60) + "a", 1, 1},
		{"\n  " + strings.Repeat("!", 60) + "a", 2, 3},
		{" ((" + strings.Repeat("a*", 60) + "a))", 1, 2},
		{"(a" + strings.Repeat("+1", 58) + ")&" + strings.Repeat("!", 59) + "b", 1, 1},
		{"x & !(" + strings.Repeat("a*", 59) + "a)", 1, 1},
	})
	if x, fault := parse.Expr("(a" + strings.Repeat("+1", 58) + ")&" + strings.Repeat("!", 58) + "b"); fault != (api.Fault{}) || levels(x) != 60 {
		t.Error(fault)
	}
}

// An expression with too many levels is at fault ahead of what can't stand behind it, but not ahead of what can't stand in it.
func TestLevelsWithAnotherFault(t *testing.T) {
	many := "a" + strings.Repeat("+1", 60)
	exprFaults(t, []place{
		{many + " b", 1, 1}, {many + ")", 1, 1}, {many + ";", 1, 1}, {many + " = b = c", 1, 1},
		{many + " +", 1, 124}, {"(" + many, 1, 123}, {many + " & (b", 1, 127}, {"(" + many + " = b = c)", 1, 128},
		{"b c " + many, 1, 3},
	})
	sourceFaults(t, []place{
		{"var x : bool =\n " + many + ";", 2, 2}, {"var x : bool =\n " + many, 2, 2}, {"process p { when\n" + many + " do x := 1; }", 2, 1},
		{"process p { when a do x := 1, y :=\n\n" + many + ", }", 3, 1}, {"process p { when a do x := 1, y := " + many + " & }", 1, 160},
	})
}

// P15.5

func TestWhatIsWrittenAtItsMostIsRead(t *testing.T) {
	for op := api.OpNeg; op < api.Ops; op++ {
		one, two := leaf(api.OpName, 0, "a", 0, 0), leaf(api.OpName, 0, "a", 0, 0)
		for range 29 {
			one, two = node(op, 0, 0, one), node(op, 0, 0, two)
			if op >= api.OpMul {
				one.Kids, two.Kids = append(one.Kids, leaf(api.OpNum, 1, "", 0, 0)), append([]api.Expr{leaf(api.OpBool, 1, "", 0, 0)}, two.Kids...)
			}
		}
		for _, x := range []api.Expr{one, two} {
			s, err := tree.Expr(x)
			if again, fault := parse.Expr(s); err != api.OK || fault != (api.Fault{}) || !tree.Same(x, again) || levels(again) != 30 {
				t.Error(op, s, fault)
			}
			m := api.Source{
				Vars:      []api.Decl{{Name: "x", Type: "bool", Begins: []api.Expr{x}}},
				Processes: []api.Process{{Name: "p", Rules: []api.Rule{{When: x, Do: []api.Assign{{Name: "x", To: x}}}}}},
			}
			s, err = tree.Source(m)
			if again, fault := parse.Source(s); err != api.OK || fault != (api.Fault{}) || !tree.SameSource(m, again) {
				t.Error(op, s, fault)
			}
		}
	}
}
