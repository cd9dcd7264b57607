package tree_test

import (
	"math/rand/v2"
	"slices"
	"strings"
	"testing"

	"lariat/api"
	"lariat/tree"
)

func name(s string) api.Expr { return api.Expr{Op: api.OpName, Name: s} }

func num(n int64) api.Expr { return api.Expr{Op: api.OpNum, Num: n} }

func boolean(n int64) api.Expr { return api.Expr{Op: api.OpBool, Num: n} }

func variable(n int64) api.Expr { return api.Expr{Op: api.OpVar, Num: n} }

func op(op int, kids ...api.Expr) api.Expr { return api.Expr{Op: op, Kids: kids} }

// nested is so many levels of OpNeg, and x within.
func nested(n int, x api.Expr) api.Expr {
	for range n {
		x = op(api.OpNeg, x)
	}
	return x
}

// P14.1

func right(t *testing.T, want bool, l ...api.Expr) {
	t.Helper()
	for _, x := range l {
		if got := tree.Right(x); got != want {
			t.Error(got, x)
		}
		x.Line, x.Col = -3, 1<<40
		if got := tree.Right(x); got != want {
			t.Error("by its place:", got, x)
		}
		if got := tree.Right(op(api.OpNot, x)); got != want {
			t.Error("within another one:", got, x)
		}
		for _, two := range [][]api.Expr{{x, num(1)}, {num(1), x}} {
			if got := tree.Right(op(api.OpIff, two...)); got != want {
				t.Error("beside another one:", got, x)
			}
		}
	}
}

func TestRightByNum(t *testing.T) {
	right(t, true, num(0), num(1), num(2), num(999999), num(1000000))
	right(t, false, num(-1), num(1000001), num(1<<62), num(-1<<63), num(1<<32))
	right(t, true, boolean(0), boolean(1))
	right(t, false, boolean(-1), boolean(2), boolean(1<<32), boolean(-1<<63))
	right(t, true, variable(0), variable(1), variable(-1), variable(1<<63-1), variable(-1<<63))
	for o := range 32 {
		if o == 1 || o == 2 || o == 4 {
			continue
		}
		for _, n := range []int64{1, -1, 1 << 32, -1 << 63} {
			x := op(o, slices.Repeat([]api.Expr{name("x")}, ops[o].kids)...)
			if o == api.OpName {
				x.Name = "x"
			}
			x.Num = n
			right(t, false, x)
		}
	}
}

func TestRightByName(t *testing.T) {
	right(t, true, name("x"), name("Xx"), name("a_9"), name(strings.Repeat("k", 32)))
	right(t, false, name(""), name("_"), name("9"), name("a b"), name("x "), name("a-b"), name("\xc3\xa4"), name(strings.Repeat("k", 33)))
	for _, s := range strings.Fields(keptWords) {
		right(t, false, name(s))
		right(t, true, name(s+"_"))
	}
	for o := range 32 {
		if o == api.OpName {
			continue
		}
		x := op(o, slices.Repeat([]api.Expr{num(1)}, ops[o].kids)...)
		x.Name = "x"
		right(t, false, x)
	}
}

func TestRightByKids(t *testing.T) {
	for o := -2; o < 34; o++ {
		for n := range 5 {
			x := op(o, slices.Repeat([]api.Expr{name("x")}, n)...)
			if o == api.OpName {
				x.Name = "x"
			}
			kind, ok := ops[o]
			right(t, ok && n == kind.kids, x)
		}
	}
	right(t, true, api.Expr{Op: api.OpNum, Kids: []api.Expr{}})
	for _, o := range []int{1 << 40, -1 << 63, 1<<63 - 1, 1<<32 + 1, 1<<8 + 1} {
		right(t, false, op(o), op(o, num(1)), op(o, num(1), num(1)))
	}
}

func TestRightByLevels(t *testing.T) {
	for n := 1; n <= 70; n++ {
		x := nested(n-1, num(1))
		if got := tree.Right(x); got != (n <= 60) {
			t.Error(n, got)
		}
		for _, two := range []api.Expr{op(api.OpAdd, x, num(1)), op(api.OpAdd, num(1), x)} {
			if got := tree.Right(two); got != (n <= 59) {
				t.Error(n, got)
			}
		}
	}
	left, both := num(1), num(1)
	for range 59 {
		left, both = op(api.OpAnd, left, num(1)), op(api.OpAnd, num(1), both)
	}
	if !tree.Right(left) || !tree.Right(both) || tree.Right(op(api.OpAnd, left, num(1))) || tree.Right(op(api.OpAnd, num(1), both)) {
		t.Error("with two Kids")
	}
}

func TestSizeOfKnown(t *testing.T) {
	for i, c := range []struct {
		x    api.Expr
		want int
	}{
		{num(1), 1},
		{api.Expr{}, 1},
		{op(api.OpNot, name("b")), 2},
		{op(api.OpAdd, name("x"), op(api.OpNeg, num(2))), 4},
		{op(77, num(1), num(2), op(-1, num(3)), num(4)), 6},
		{nested(59, num(1)), 60},
		{nested(60, num(1)), 61},
		{op(api.OpNum, slices.Repeat([]api.Expr{{}}, 100000)...), 100001},
	} {
		if got := tree.Size(c.x); got != c.want {
			t.Error(i, got)
		}
	}
}

func TestSign(t *testing.T) {
	for o := -40; o < 80; o++ {
		if got := tree.Sign(o); got != ops[o].sign {
			t.Error(o, got)
		}
	}
	for _, o := range []int{1 << 40, -1 << 63, 1<<63 - 1, 1<<32 + 6, 256 + 6} {
		if got := tree.Sign(o); got != "" {
			t.Error(o, got)
		}
	}
	for o, want := range map[int]string{api.OpNeg: "-", api.OpSub: "-", api.OpNot: "!", api.OpMul: "*", api.OpAdd: "+", api.OpEq: "=", api.OpNe: "!=", api.OpLt: "<", api.OpLe: "<=", api.OpGt: ">", api.OpGe: ">=", api.OpAnd: "&", api.OpOr: "|", api.OpImplies: "->", api.OpIff: "<->", api.OpX: "X", api.OpF: "F", api.OpG: "G", api.OpY: "Y", api.OpZ: "Z", api.OpO: "O", api.OpH: "H", api.OpU: "U", api.OpR: "R", api.OpS: "S", api.OpT: "T", api.OpNum: "", api.OpBool: "", api.OpName: "", api.OpVar: "", api.Ops: ""} {
		if got := tree.Sign(o); got != want {
			t.Error(o, got, want)
		}
	}
}

// copyOf is the same one elsewhere, with other places.
func copyOf(x api.Expr) api.Expr {
	x.Line, x.Col = x.Line+1, x.Col-7
	kids := make([]api.Expr, 0, len(x.Kids)+1)
	for _, k := range x.Kids {
		kids = append(kids, copyOf(k))
	}
	x.Kids = kids
	return x
}

// within is every Expr in it, to be changed.
func within(x *api.Expr) []*api.Expr {
	l := []*api.Expr{x}
	for i := range x.Kids {
		l = append(l, within(&x.Kids[i])...)
	}
	return l
}

// changes are what makes an Expr another one.
var changes = []func(x *api.Expr){
	func(x *api.Expr) { x.Op++ },
	func(x *api.Expr) { x.Op = -x.Op - 1 },
	func(x *api.Expr) { x.Num++ },
	func(x *api.Expr) { x.Num ^= 1 << 40 },
	func(x *api.Expr) { x.Name += "k" },
	func(x *api.Expr) { x.Kids = append(x.Kids, api.Expr{}) },
	func(x *api.Expr) {
		if x.Kids = x.Kids[:len(x.Kids)/2]; len(x.Kids) == 0 {
			x.Kids = []api.Expr{num(5), num(5), num(5)}
		}
	},
}

func TestSame(t *testing.T) {
	for _, wrong := range []int{0, 5} {
		m := &maker{r: rand.New(rand.NewPCG(7, 14)), wrong: wrong, vars: true}
		for range 500 {
			a := m.expr(4)
			b := copyOf(a)
			if !tree.Same(a, b) || !tree.Same(b, a) || !tree.Same(a, a) {
				t.Fatal(a)
			}
			for i := range within(&b) {
				for j, change := range changes {
					c := copyOf(a)
					change(within(&c)[i])
					if tree.Same(a, c) || tree.Same(c, a) {
						t.Fatal(i, j, a, c)
					}
				}
			}
		}
	}
}

func TestSameOfNilAndEmpty(t *testing.T) {
	if !tree.Same(api.Expr{}, api.Expr{Kids: []api.Expr{}}) || !tree.Same(api.Expr{Kids: []api.Expr{}}, api.Expr{Line: 9, Col: 9}) {
		t.Error("no Kids")
	}
	if tree.Same(op(api.OpAdd, num(1), num(2)), op(api.OpAdd, num(2), num(1))) {
		t.Error("changed places")
	}
}

// P14.2

func written(t *testing.T, want string, x api.Expr) {
	t.Helper()
	if s, err := tree.Expr(x); s != want || err != api.OK {
		t.Errorf("%q %v, not %q", s, err, want)
	}
}

func TestExprTheExample(t *testing.T) {
	written(t, "x + (-2)", op(api.OpAdd, name("x"), op(api.OpNeg, num(2))))
}

func TestExprWithoutKids(t *testing.T) {
	written(t, "0", num(0))
	written(t, "7", num(7))
	written(t, "1000000", num(1000000))
	written(t, "false", boolean(0))
	written(t, "true", boolean(1))
	written(t, "x", name("x"))
	written(t, "a_9", api.Expr{Op: api.OpName, Name: "a_9", Kids: []api.Expr{}, Line: 5, Col: -5})
}

func TestExprOfEachOp(t *testing.T) {
	x, not := name("x"), op(api.OpNot, name("b"))
	for o := api.OpNeg; o < api.Ops; o++ {
		sign := ops[o].sign
		if ops[o].kids == 2 {
			written(t, "x "+sign+" 1", op(o, x, num(1)))
			written(t, "(!b) "+sign+" x", op(o, not, x))
			written(t, "true "+sign+" (!b)", op(o, boolean(1), not))
			written(t, "(x "+sign+" x) "+sign+" (x "+sign+" 0)", op(o, op(o, x, x), op(o, x, num(0))))
			continue
		}
		if strings.Contains(letters, sign) {
			sign += " "
		}
		written(t, sign+"x", op(o, x))
		written(t, sign+"12", op(o, num(12)))
		written(t, sign+"(!b)", op(o, not))
		written(t, sign+"("+sign+"("+sign+"false))", op(o, op(o, op(o, boolean(0)))))
	}
}

func TestExprOfManyLevels(t *testing.T) {
	written(t, strings.Repeat("-(", 58)+"-1"+strings.Repeat(")", 58), nested(59, num(1)))
	x := name("x")
	for range 59 {
		x = op(api.OpU, x, num(1))
	}
	written(t, strings.Repeat("(", 58)+"x U 1"+strings.Repeat(") U 1", 58), x)
}

// P14.3

const aText = `enum Color { red, green }
enum One { one }
var x : -1..3 = -1;
var y : 5..-1000000;
var c : Color = red;
var o : One;
var b : bool = !(x = 3);
var d : bool;
process p {
  when x < 3 do x := x + 1, b := !b;
  when true do c := green;
}
process q {
}
`

func aSource() api.Source {
	return api.Source{
		Enums: []api.Enum{{Name: "Color", Values: []string{"red", "green"}}, {Name: "One", Values: []string{"one"}}},
		Vars: []api.Decl{
			{Name: "x", Low: -1, High: 3, Begins: []api.Expr{op(api.OpNeg, num(1))}},
			{Name: "y", Low: 5, High: -1000000},
			{Name: "c", Type: "Color", Begins: []api.Expr{name("red")}},
			{Name: "o", Type: "One"},
			{Name: "b", Type: "bool", Begins: []api.Expr{op(api.OpNot, op(api.OpEq, name("x"), num(3)))}},
			{Name: "d", Type: "bool"},
		},
		Processes: []api.Process{
			{Name: "p", Rules: []api.Rule{
				{When: op(api.OpLt, name("x"), num(3)), Do: []api.Assign{{Name: "x", To: op(api.OpAdd, name("x"), num(1))}, {Name: "b", To: op(api.OpNot, name("b"))}}},
				{When: boolean(1), Do: []api.Assign{{Name: "c", To: name("green")}}},
			}},
			{Name: "q"},
		},
	}
}

func source(t *testing.T, want string, m api.Source) {
	t.Helper()
	if s, err := tree.Source(m); s != want || err != api.OK {
		t.Errorf("%q %v, not %q", s, err, want)
	}
}

func TestSourceLineByLine(t *testing.T) {
	source(t, aText, aSource())
	source(t, "", api.Source{})
	source(t, "", api.Source{Enums: []api.Enum{}, Vars: []api.Decl{}, Processes: []api.Process{}})
	source(t, "var x : 0..0;\n", api.Source{Vars: []api.Decl{{Name: "x"}}})
	source(t, "var x : -1000000..1000000 = 1;\n", api.Source{Vars: []api.Decl{{Name: "x", Low: -1000000, High: 1000000, Begins: []api.Expr{num(1)}, Line: 4, Col: 5}}})
	source(t, "var x : Unknown;\nvar x : x;\n", api.Source{Vars: []api.Decl{{Name: "x", Type: "Unknown"}, {Name: "x", Type: "x", Begins: []api.Expr{}}}})
	source(t, "process p {\n}\n", api.Source{Processes: []api.Process{{Name: "p", Rules: []api.Rule{}}}})
	source(t, "enum E { E, E }\n", api.Source{Enums: []api.Enum{{Name: "E", Values: []string{"E", "E"}}}})
}

func TestSourceOfManyThings(t *testing.T) {
	values := slices.Repeat([]string{"v"}, 32)
	rule := api.Rule{When: boolean(1), Do: slices.Repeat([]api.Assign{{Name: "x", To: num(1)}}, 32)}
	m := api.Source{
		Enums:     slices.Repeat([]api.Enum{{Name: "E", Values: values}}, 32),
		Vars:      slices.Repeat([]api.Decl{{Name: "x", High: 1}}, 32),
		Processes: slices.Repeat([]api.Process{{Name: "p", Rules: slices.Repeat([]api.Rule{rule}, 32)}}, 32),
	}
	line := "  when true do " + strings.Repeat("x := 1, ", 31) + "x := 1;\n"
	source(t, strings.Repeat("enum E { "+strings.Repeat("v, ", 31)+"v }\n", 32)+strings.Repeat("var x : 0..1;\n", 32)+strings.Repeat("process p {\n"+strings.Repeat(line, 32)+"}\n", 32), m)
}

// P14.1, SameSource

// otherPlaces moves all that stands somewhere.
func otherPlaces(m *api.Source) {
	for i := range m.Enums {
		m.Enums[i].Line, m.Enums[i].Col = i+3, -i
	}
	for i := range m.Vars {
		v := &m.Vars[i]
		v.Line, v.Col = i+3, -i
		for j := range v.Begins {
			v.Begins[j] = copyOf(v.Begins[j])
		}
	}
	for i := range m.Processes {
		p := &m.Processes[i]
		p.Line, p.Col = i+3, -i
		for j := range p.Rules {
			r := &p.Rules[j]
			r.When = copyOf(r.When)
			for k := range r.Do {
				a := &r.Do[k]
				a.Line, a.Col, a.To = i+3, -i, copyOf(a.To)
			}
		}
	}
}

func TestSameSourceButForPlaces(t *testing.T) {
	a, b := aSource(), aSource()
	otherPlaces(&b)
	if !tree.SameSource(a, b) || !tree.SameSource(b, a) || !tree.SameSource(a, a) {
		t.Error("places")
	}
	none := api.Source{Enums: []api.Enum{}, Vars: []api.Decl{}, Processes: []api.Process{}}
	if !tree.SameSource(none, api.Source{}) || !tree.SameSource(api.Source{}, none) || tree.SameSource(a, none) || tree.SameSource(none, a) {
		t.Error("nothing")
	}
	c := api.Source{Enums: []api.Enum{{}}, Vars: []api.Decl{{}}, Processes: []api.Process{{Rules: []api.Rule{{}}}}}
	d := api.Source{Enums: []api.Enum{{Values: []string{}}}, Vars: []api.Decl{{Begins: []api.Expr{}}}, Processes: []api.Process{{Rules: []api.Rule{{Do: []api.Assign{}}}}}}
	if !tree.SameSource(c, d) {
		t.Error("nil and empty")
	}
}

// sourceChanges are what makes that source another one.
var sourceChanges = []func(m *api.Source){
	func(m *api.Source) { m.Enums = m.Enums[:1] },
	func(m *api.Source) { m.Enums = append(m.Enums, api.Enum{}) },
	func(m *api.Source) { slices.Reverse(m.Enums) },
	func(m *api.Source) { m.Enums[1].Name = "Ones" },
	func(m *api.Source) { m.Enums[0].Values[1] = "blue" },
	func(m *api.Source) { m.Enums[1].Values = nil },
	func(m *api.Source) { slices.Reverse(m.Enums[0].Values) },
	func(m *api.Source) { m.Enums[0].Values = append(m.Enums[0].Values, "") },
	func(m *api.Source) { m.Vars = m.Vars[1:] },
	func(m *api.Source) { m.Vars = append(m.Vars, api.Decl{}) },
	func(m *api.Source) { slices.Reverse(m.Vars) },
	func(m *api.Source) { m.Vars[5].Name = "D" },
	func(m *api.Source) { m.Vars[0].Type = "bool" },
	func(m *api.Source) { m.Vars[3].Type = "" },
	func(m *api.Source) { m.Vars[0].Low = 1 },
	func(m *api.Source) { m.Vars[0].High++ },
	func(m *api.Source) { m.Vars[5].High++ },
	func(m *api.Source) { m.Vars[0].Begins = nil },
	func(m *api.Source) { m.Vars[3].Begins = []api.Expr{{}} },
	func(m *api.Source) { m.Vars[0].Begins = append(m.Vars[0].Begins, num(1)) },
	func(m *api.Source) { m.Vars[0].Begins[0].Kids[0].Num = 2 },
	func(m *api.Source) { m.Processes = m.Processes[:1] },
	func(m *api.Source) { m.Processes = append(m.Processes, api.Process{}) },
	func(m *api.Source) { slices.Reverse(m.Processes) },
	func(m *api.Source) { m.Processes[1].Name = "p" },
	func(m *api.Source) { m.Processes[1].Rules = []api.Rule{{}} },
	func(m *api.Source) { m.Processes[0].Rules = m.Processes[0].Rules[:1] },
	func(m *api.Source) { slices.Reverse(m.Processes[0].Rules) },
	func(m *api.Source) { m.Processes[0].Rules[0].When.Kids[0].Name = "y" },
	func(m *api.Source) { m.Processes[0].Rules[1].When.Num = 0 },
	func(m *api.Source) { slices.Reverse(m.Processes[0].Rules[0].Do) },
	func(m *api.Source) { m.Processes[0].Rules[1].Do = nil },
	func(m *api.Source) { m.Processes[0].Rules[0].Do[1].Name = "d" },
	func(m *api.Source) { m.Processes[0].Rules[0].Do[1].To.Op = api.OpNeg },
	func(m *api.Source) { m.Processes[0].Rules[1].Do[0].To.Name = "red" },
}

func TestSameSourceOfOthers(t *testing.T) {
	for i, change := range sourceChanges {
		a, b := aSource(), aSource()
		change(&b)
		if tree.SameSource(a, b) || tree.SameSource(b, a) {
			t.Error(i)
		}
	}
}
