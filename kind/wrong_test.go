package kind_test

import (
	"math"
	"math/rand/v2"
	"reflect"
	"slices"
	"strconv"
	"strings"
	"testing"

	"lariat/api"
	"lariat/kind"
)

// Memory: what is handed in, and what is answered

const fullModel = "enum E { a, b, c } enum D { d, dd }\nvar x : -3..3 = 1 + 1; var p : bool = a = a; var e : E = b; var f : D;\nprocess one { when p & x < 2 do x := x + 1, p := !p; when e = a do e := b; } process two { when true do f := dd, x := 0; }"

func spoil[T any](l []T, with T) {
	all := l[:cap(l)]
	for i := range all {
		all[i] = with
	}
}

func spoilExpr(x *api.Expr) {
	for i := range x.Kids {
		spoilExpr(&x.Kids[i])
	}
	spoil(x.Kids, api.Expr{Op: 77, Name: "spoilt"})
}

func spoilSource(s *api.Source) {
	for _, e := range s.Enums {
		spoil(e.Values, "spoilt")
	}
	for i := range s.Vars {
		for j := range s.Vars[i].Begins {
			spoilExpr(&s.Vars[i].Begins[j])
		}
		spoil(s.Vars[i].Begins, api.Expr{Op: 77})
	}
	for _, p := range s.Processes {
		for i := range p.Rules {
			spoilExpr(&p.Rules[i].When)
			for j := range p.Rules[i].Do {
				spoilExpr(&p.Rules[i].Do[j].To)
			}
			spoil(p.Rules[i].Do, api.Assign{Name: "spoilt"})
		}
		spoil(p.Rules, api.Rule{})
	}
	spoil(s.Enums, api.Enum{Name: "spoilt"})
	spoil(s.Vars, api.Decl{Name: "spoilt"})
	spoil(s.Processes, api.Process{Name: "spoilt"})
}

// spoilModel writes over all lists of a model.
func spoilModel(m *api.Model) {
	for _, e := range m.Enums {
		spoil(e.Values, "spoilt")
	}
	for i := range m.Moves {
		spoilExpr(&m.Moves[i].When)
		for j := range m.Moves[i].Do {
			spoilExpr(&m.Moves[i].Do[j].To)
		}
		spoil(m.Moves[i].Do, api.Set{Var: 77})
	}
	spoil(m.Enums, api.Enum{Name: "spoilt"})
	spoil(m.Vars, api.Var{Name: "spoilt"})
	spoil(m.Moves, api.Move{})
}

func TestModelIsNewMemory(t *testing.T) {
	want := fitting(t, fullModel)
	s := parsed(t, fullModel)
	m, _ := kind.Model(s)
	spoilSource(&s)
	if !reflect.DeepEqual(m, want) {
		t.Error(m)
	}
	s = parsed(t, fullModel)
	m, _ = kind.Model(s)
	spoilModel(&m)
	if again, fault := kind.Model(s); fault != (api.Fault{}) || !reflect.DeepEqual(again, want) || !reflect.DeepEqual(s, parsed(t, fullModel)) {
		t.Error(again, fault, s)
	}
}

func TestFormulaIsNewMemory(t *testing.T) {
	m, text := fitting(t, fullModel), "G (p -> F (1 + 2 = x)) & (true U (a = e)) & X !(true | false)"
	x, want := expr(t, text), expr(t, text)
	got, _ := kind.Formula(m, x)
	spoilExpr(&got)
	if !reflect.DeepEqual(x, want) || !reflect.DeepEqual(m, fitting(t, fullModel)) {
		t.Error(x, m)
	}
	want, _ = kind.Formula(m, x)
	got, _ = kind.Formula(m, x)
	spoilExpr(&x)
	spoilModel(&m)
	if !reflect.DeepEqual(got, want) {
		t.Error(got)
	}
}

// Room behind lists that are handed in isn't written to.
func TestSpareRoomStays(t *testing.T) {
	s := parsed(t, fullModel)
	room := api.Expr{Op: api.OpName, Name: "room"}
	for i := range s.Processes {
		for j := range s.Processes[i].Rules {
			r := &s.Processes[i].Rules[j]
			r.Do = append(r.Do, api.Assign{Name: "room"})[:len(r.Do)]
			r.When.Kids = append(r.When.Kids, room)[:len(r.When.Kids)]
		}
	}
	s.Enums = append(s.Enums, api.Enum{Name: "room"})[:len(s.Enums)]
	s.Enums[0].Values = append(s.Enums[0].Values, "room")[:3]
	s.Vars = append(s.Vars, api.Decl{Name: "room"})[:len(s.Vars)]
	m, fault := kind.Model(s)
	if fault != (api.Fault{}) || !reflect.DeepEqual(m, fitting(t, fullModel)) {
		t.Error(fault, m)
	}
	m.Enums[0].Values = append(m.Enums[0].Values, "more")
	if s.Enums[:3][2].Name != "room" || s.Enums[0].Values[:4][3] != "room" || s.Vars[:5][4].Name != "room" {
		t.Error(s)
	}
	for _, p := range s.Processes {
		for _, r := range p.Rules {
			if n := len(r.Do); r.Do[:n+1][n].Name != "room" {
				t.Error(r)
			}
			if n := len(r.When.Kids); r.When.Kids[:n+1][n].Name != "room" {
				t.Error(r)
			}
		}
	}
	x := expr(t, "p & q")
	x.Kids = append(x.Kids, room)[:2]
	x.Kids[1].Name = "p"
	if _, fault := kind.Formula(m, x); fault != (api.Fault{}) || x.Kids[:3][2].Name != "room" {
		t.Error(fault, x)
	}
}

// What stands behind a list of an answer in its spare room is no other list of it.
func TestListsAreApart(t *testing.T) {
	want := fitting(t, fullModel)
	for i := range 6 {
		m := fitting(t, fullModel)
		lists := []func(){
			func() { _ = append(m.Enums[0].Values, "spoilt") },
			func() { _ = append(m.Enums, api.Enum{}) },
			func() { _ = append(m.Vars, api.Var{}) },
			func() { _ = append(m.Moves[0].Do, api.Set{Var: 7}) },
			func() { _ = append(m.Moves[1].Do, api.Set{Var: 7}, api.Set{Var: 8}) },
			func() { _ = append(m.Moves[0].When.Kids, api.Expr{Op: 77}) },
		}
		lists[i]()
		if !reflect.DeepEqual(m, want) {
			t.Error(i, m)
		}
	}
}

// Lists that are empty are as those that are nil.
func TestEmptyLists(t *testing.T) {
	x := api.Expr{Op: api.OpBool, Num: 1, Kids: []api.Expr{}, Line: 1, Col: 1}
	s := api.Source{Enums: []api.Enum{}, Vars: []api.Decl{{Name: "b", Type: "bool", Begins: []api.Expr{}}}, Processes: []api.Process{{Name: "p", Rules: []api.Rule{}}, {Name: "q", Rules: []api.Rule{{When: x, Do: []api.Assign{{Name: "b", To: x}}}}}}}
	m, fault := kind.Model(s)
	want := api.Model{Vars: []api.Var{{Name: "b", Kind: api.KindBool, High: 1}}, Moves: []api.Move{{When: x, Do: []api.Set{{Var: 0, To: x}}}}}
	if fault != (api.Fault{}) || !same(m, want) {
		t.Error(m, fault)
	}
	if y, fault := kind.Formula(api.Model{Vars: []api.Var{}}, x); fault != (api.Fault{}) || y.Num != 1 || len(y.Kids) > 0 {
		t.Error(y, fault)
	}
}

// Arguments of any shape: each call ends, and none panics.

var (
	anyNumbers = []int64{0, 1, -1, 2, 3, 7, 1000000, 100000001, -100000001, math.MaxInt64, math.MinInt64, math.MaxInt64 - 1, 1 << 32, 1 << 48}
	anyNames   = []string{"", "x", "y", "E", "a", "b", "p", "bool", "true", "a b", strings.Repeat("k", 100)}
)

func anyExpr(r *rand.Rand, levels int) api.Expr {
	m := &maker{Rand: r}
	x := api.Expr{Op: r.IntN(33) - 1, Num: pick(m, anyNumbers...), Name: pick(m, anyNames...), Line: r.IntN(3) - 1, Col: r.IntN(3) - 1}
	if levels > 0 {
		for range pick(m, 0, 1, 2, 2, 2, 3) {
			x.Kids = append(x.Kids, anyExpr(r, levels-1))
		}
	}
	return x
}

// few: some things of a kind.
func few[T any](r *rand.Rand, one func() T) []T {
	var l []T
	for range r.IntN(4) {
		l = append(l, one())
	}
	return l
}

func anySource(r *rand.Rand) api.Source {
	m := &maker{Rand: r}
	name := func() string { return pick(m, anyNames...) }
	one := func() api.Expr { return anyExpr(r, r.IntN(3)) }
	assign := func() api.Assign { return api.Assign{Name: name(), To: one()} }
	rule := func() api.Rule { return api.Rule{When: one(), Do: few(r, assign)} }
	return api.Source{
		Enums: few(r, func() api.Enum { return api.Enum{Name: name(), Values: few(r, name)} }),
		Vars: few(r, func() api.Decl {
			return api.Decl{Name: name(), Type: pick(m, "", "bool", name()), Low: pick(m, anyNumbers...), High: pick(m, anyNumbers...), Begins: few(r, one)}
		}),
		Processes: few(r, func() api.Process { return api.Process{Name: name(), Rules: few(r, rule)} }),
	}
}

func anyModel(r *rand.Rand) api.Model {
	m := &maker{Rand: r}
	name := func() string { return pick(m, anyNames...) }
	return api.Model{
		Enums: few(r, func() api.Enum { return api.Enum{Name: name(), Values: few(r, name)} }),
		Vars: few(r, func() api.Var {
			return api.Var{Name: name(), Kind: r.IntN(6) - 1, Enum: name(), Low: pick(m, anyNumbers...), High: pick(m, anyNumbers...)}
		}),
	}
}

func TestAnyArguments(t *testing.T) {
	for seed := range uint64(100000) {
		r := rand.New(rand.NewPCG(seed, 19))
		if m, fault := kind.Model(anySource(r)); fault != (api.Fault{}) && !reflect.DeepEqual(m, api.Model{}) {
			t.Error(m, fault)
		}
		m := anyModel(r)
		if x, fault := kind.Formula(m, anyExpr(r, r.IntN(4))); fault != (api.Fault{}) && !reflect.DeepEqual(x, api.Expr{}) {
			t.Error(x, fault)
		}
		kind.States(m)
		for _, n := range anyNumbers {
			kind.Names(m, r.IntN(4)-1, n)
		}
	}
}

func TestExprsThatCantBe(t *testing.T) {
	m := fitting(t, "enum E { a } var x : 0..3; var p : bool;")
	p := api.Expr{Op: api.OpName, Name: "p"}
	of := func(op int, kids ...api.Expr) api.Expr {
		return api.Expr{Op: op, Name: "p", Kids: kids, Line: 3, Col: 7}
	}
	for op := -1; op <= api.Ops+1; op++ {
		for n := range 4 {
			right := n == 1 && op >= api.OpNot && op <= api.OpH || n == 2 && (op == api.OpEq || op == api.OpNe || op >= api.OpU && op < api.Ops) || n == 0 && op == api.OpBool
			if n == 0 && (op == api.OpName || op == api.OpVar) {
				continue
			}
			x, fault := kind.Formula(m, of(op, slices.Repeat([]api.Expr{p}, n)...))
			if right && (fault != (api.Fault{}) || x.Op != op) || !right && fault != (api.Fault{Code: api.ErrKind, Line: 3, Col: 7}) {
				t.Error(op, n, fault)
			}
		}
	}
}

// A variable by its number is what it is, if there is such a one.
func TestVariablesByNumber(t *testing.T) {
	m := fitting(t, "enum E { a } var x : 0..3; var p : bool;")
	for _, n := range []int64{-1, 2, math.MinInt64, math.MaxInt64, 1 << 32} {
		if _, fault := kind.Formula(m, leaf(api.OpVar, n, 2, 5)); fault != (api.Fault{Code: api.ErrName, Line: 2, Col: 5}) {
			t.Error(n, fault)
		}
	}
	if x, fault := kind.Formula(m, leaf(api.OpVar, 1, 2, 5)); fault != (api.Fault{}) || !same(x, leaf(api.OpVar, 1, 2, 5)) {
		t.Error(x, fault)
	}
	once, _ := kind.Formula(m, expr(t, "G (x < 2 -> p)"))
	if twice, fault := kind.Formula(m, once); fault != (api.Fault{}) || !same(once, twice) {
		t.Error(twice, fault)
	}
}

// Models and formulas that are as great as layer 15 lets them be.
func TestGreatOnes(t *testing.T) {
	s := ""
	for i := range 32 {
		n := strconv.Itoa(i)
		s += "enum E" + n + " {"
		for j := range 32 {
			s += strings.Repeat(", ", min(j, 1)) + "v" + n + "_" + strconv.Itoa(j)
		}
		s += "}\n"
		if i < 9 {
			s += "var x" + n + " : E" + n + " = v" + n + "_31;\n"
		}
	}
	rule := "when x0 = v0_0 do x0 := v0_1, x8 := v8_31;\n"
	s += "process p0 { " + strings.Repeat(rule, 32) + "}\n"
	for i := range 31 {
		s += "process p" + strconv.Itoa(i+1) + " { " + rule + "}\n"
	}
	m := fitting(t, s)
	if kind.States(m) != 1<<45 || len(m.Moves) != 63 || kind.Names(m, 8, 31) != "v8_31" || m.Vars[8].First != 31 {
		t.Error(len(m.Moves), kind.States(m))
	}
	p := fitting(t, "var p : bool; var x : 0..1;")
	for _, text := range []string{
		strings.Repeat("!", 59) + "p", strings.Repeat("p -> ", 59) + "p", strings.Repeat("G ", 59) + "p", strings.Repeat("p U ", 59) + "p", strings.Repeat("(", 58) + "p" + strings.Repeat(" <-> p)", 58),
		strings.Repeat("-", 57) + "x = 0", strings.Repeat("x + ", 57) + "x = 0",
	} {
		if _, fault := kind.Formula(p, expr(t, text)); fault != (api.Fault{}) {
			t.Error(text, fault)
		}
	}
	if _, fault := kind.Formula(p, expr(t, strings.Repeat("!", 58)+"(p = x)")); fault != (api.Fault{Code: api.ErrKind, Line: 1, Col: 62}) {
		t.Error(fault)
	}
	square := "(1 + x)"
	for range 8 {
		square = "(" + square + " * " + square + ")"
	}
	// 2 to the power of 32 is the first one that is too far from 0: the fifth product on the way up
	if _, fault := kind.Formula(p, expr(t, square+" = 0")); fault.Code != api.ErrMany || square[fault.Col-1] != '*' || strings.Count(square[:fault.Col], "*") != 16 {
		t.Error(fault)
	}
}

func TestDeepExprs(t *testing.T) {
	m := fitting(t, "var p : bool;")
	x := api.Expr{Op: api.OpVar}
	for range 1 << 16 {
		x = api.Expr{Op: api.OpNot, Kids: []api.Expr{x}}
	}
	y, fault := kind.Formula(m, x)
	if fault != (api.Fault{}) || y.Op != api.OpNot {
		t.Error(fault)
	}
	kind.Model(api.Source{Vars: []api.Decl{{Name: "p", Type: "bool", Begins: []api.Expr{x}}}})
}
