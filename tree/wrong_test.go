package tree_test

import (
	"slices"
	"strings"
	"testing"

	"lariat/api"
	"lariat/tree"
)

// The section Errors, and arguments of any shape

func noExpr(t *testing.T, l ...api.Expr) {
	t.Helper()
	for _, x := range l {
		for _, y := range []api.Expr{x, op(api.OpX, x), op(api.OpS, num(1), x), op(api.OpS, x, num(1))} {
			if s, err := tree.Expr(y); s != "" || err != api.ErrTree {
				t.Errorf("%q %v: %v", s, err, y)
			}
		}
	}
}

func TestErrTreeOfExprs(t *testing.T) {
	noExpr(t, api.Expr{}, op(0), op(-1), op(31), op(31, num(1)), op(31, num(1), num(1)), op(1<<40, num(1), num(1)))
	noExpr(t, num(-1), num(1000001), boolean(2), boolean(-1), name(""), name("X"), name("a b"), name(strings.Repeat("k", 33)))
	noExpr(t, variable(0), variable(7), variable(-1))
	noExpr(t, op(api.OpNot), op(api.OpNot, num(1), num(1)), op(api.OpAnd, num(1)), op(api.OpAnd), op(api.OpAnd, num(1), num(1), num(1)), op(api.OpNum, num(1)))
	noExpr(t, api.Expr{Op: api.OpNum, Name: "x"}, api.Expr{Op: api.OpBool, Name: "x"}, api.Expr{Op: api.OpName, Name: "x", Num: 1})
	noExpr(t, api.Expr{Op: api.OpNot, Num: 1, Kids: []api.Expr{name("b")}}, api.Expr{Op: api.OpNot, Name: "b", Kids: []api.Expr{name("b")}})
	noExpr(t, nested(60, num(1)), nested(61, num(1)))
	if s, err := tree.Expr(nested(59, variable(1))); s != "" || err != api.ErrTree {
		t.Error(s, err)
	}
}

// sourceFaults are what makes that source one that can't be.
var sourceFaults = []func(m *api.Source){
	func(m *api.Source) { m.Enums[0].Name = "" },
	func(m *api.Source) { m.Enums[1].Name = "bool" },
	func(m *api.Source) { m.Enums[1].Values = nil },
	func(m *api.Source) { m.Enums[1].Values = []string{} },
	func(m *api.Source) { m.Enums[1].Values[0] = "" },
	func(m *api.Source) { m.Enums[0].Values[1] = "true" },
	func(m *api.Source) { m.Enums[0].Values[0] = "1" },
	func(m *api.Source) { m.Enums[0].Values = slices.Repeat([]string{"v"}, 33) },
	func(m *api.Source) { m.Enums = slices.Repeat(m.Enums[:1], 33) },
	func(m *api.Source) { m.Vars[5].Name = "T" },
	func(m *api.Source) { m.Vars[0].Name = "x y" },
	func(m *api.Source) { m.Vars[2].Type = "color " },
	func(m *api.Source) { m.Vars[2].Type = "var" },
	func(m *api.Source) { m.Vars[2].Type = "0..3" },
	func(m *api.Source) { m.Vars[2].Type = strings.Repeat("E", 33) },
	func(m *api.Source) { m.Vars[0].Low = -1000001 },
	func(m *api.Source) { m.Vars[0].Low = 1000001 },
	func(m *api.Source) { m.Vars[0].High = 1000001 },
	func(m *api.Source) { m.Vars[0].High = -1000001 },
	func(m *api.Source) { m.Vars[0].Low = -1 << 63 },
	func(m *api.Source) { m.Vars[0].High = 1<<63 - 1 },
	func(m *api.Source) { m.Vars[2].Low = -1 },
	func(m *api.Source) { m.Vars[2].High = 1 },
	func(m *api.Source) { m.Vars[5].Low = 1 },
	func(m *api.Source) { m.Vars[5].High = 1 },
	func(m *api.Source) { m.Vars[0].Begins = []api.Expr{num(1), num(1)} },
	func(m *api.Source) { m.Vars[0].Begins = []api.Expr{num(-1)} },
	func(m *api.Source) { m.Vars[5].Begins = []api.Expr{variable(0)} },
	func(m *api.Source) { m.Vars[5].Begins = []api.Expr{nested(60, num(1))} },
	func(m *api.Source) { m.Vars = slices.Repeat(m.Vars[:1], 33) },
	func(m *api.Source) { m.Processes[1].Name = "" },
	func(m *api.Source) { m.Processes[1].Name = "process" },
	func(m *api.Source) { m.Processes[1].Rules = []api.Rule{{When: num(1)}} },
	func(m *api.Source) { m.Processes[0].Rules[1].Do = []api.Assign{} },
	func(m *api.Source) {
		m.Processes[0].Rules[1].Do = slices.Repeat(m.Processes[0].Rules[1].Do, 33)
	},
	func(m *api.Source) { m.Processes[0].Rules = slices.Repeat(m.Processes[0].Rules[:1], 33) },
	func(m *api.Source) { m.Processes = slices.Repeat(m.Processes[1:], 33) },
	func(m *api.Source) { m.Processes[0].Rules[1].When = api.Expr{} },
	func(m *api.Source) { m.Processes[0].Rules[0].When = variable(0) },
	func(m *api.Source) { m.Processes[0].Rules[0].Do[1].Name = "O" },
	func(m *api.Source) { m.Processes[0].Rules[0].Do[1].To = variable(0) },
	func(m *api.Source) { m.Processes[0].Rules[0].Do[0].To.Kids[1].Num = 1000001 },
}

func TestErrTreeOfSources(t *testing.T) {
	for i, spoil := range sourceFaults {
		m := aSource()
		spoil(&m)
		if s, err := tree.Source(m); s != "" || err != api.ErrTree {
			t.Error(i, s, err)
		}
	}
	source(t, aText, aSource())
}

func TestSourceOfLongLists(t *testing.T) {
	n := 1 << 18
	for i, m := range []api.Source{
		{Enums: make([]api.Enum, n)},
		{Vars: make([]api.Decl, n)},
		{Processes: make([]api.Process, n)},
		{Enums: []api.Enum{{Name: "E", Values: make([]string, n)}}},
		{Vars: []api.Decl{{Name: "x", Begins: make([]api.Expr, n)}}},
		{Processes: []api.Process{{Name: "p", Rules: make([]api.Rule, n)}}},
		{Processes: []api.Process{{Name: "p", Rules: []api.Rule{{When: boolean(1), Do: make([]api.Assign, n)}}}}},
	} {
		if s, err := tree.Source(m); s != "" || err != api.ErrTree {
			t.Error(i, s, err)
		}
		if !tree.SameSource(m, m) || tree.SameSource(m, api.Source{}) {
			t.Error(i, "Same")
		}
	}
}

func TestExprsOfAnyShape(t *testing.T) {
	deep := nested(1<<16-1, num(1))
	wide := op(api.OpAnd, slices.Repeat([]api.Expr{name("x")}, 1<<18)...)
	both := op(-1<<63, deep, wide, deep)
	for i, c := range []struct {
		x    api.Expr
		size int
	}{{deep, 1 << 16}, {wide, 1<<18 + 1}, {both, 1<<17 + 1<<18 + 2}} {
		if tree.Right(c.x) {
			t.Error(i, "Right")
		}
		if s, err := tree.Expr(c.x); s != "" || err != api.ErrTree {
			t.Error(i, len(s), err)
		}
		if got := tree.Size(c.x); got != c.size {
			t.Error(i, got)
		}
		if !tree.Same(c.x, copyOf(c.x)) || tree.Same(c.x, num(1)) || tree.Same(num(1), c.x) {
			t.Error(i, "Same")
		}
	}
	if tree.Same(deep, nested(1<<16-1, num(2))) || tree.Same(deep, op(api.OpNeg, deep)) {
		t.Error("as deep")
	}
}

// Levels that go on below both Kids are left ahead of the last one.
func TestRightOfTooManyLevelsEnds(t *testing.T) {
	x := num(1)
	for range 200 {
		x = op(api.OpAnd, x, x)
	}
	if s, err := tree.Expr(x); tree.Right(x) || s != "" || err != api.ErrTree {
		t.Error(s, err)
	}
}

func TestArgumentsStay(t *testing.T) {
	m := aSource()
	otherPlaces(&m)
	m.Vars[0].Begins = append(m.Vars[0].Begins, num(99))[:1]
	source(t, aText, m)
	tree.SameSource(m, aSource())
	x := m.Processes[0].Rules[0].Do[0].To
	tree.Right(x)
	tree.Same(x, x)
	tree.Size(x)
	if _, err := tree.Expr(x); err != api.OK {
		t.Error(err)
	}
	want := aSource()
	otherPlaces(&want)
	if !tree.SameSource(m, want) || m.Vars[0].Line != 3 || m.Vars[0].Begins[:2][1].Num != 99 {
		t.Error(m)
	}
}
