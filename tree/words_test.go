package tree_test

import (
	"math/rand/v2"
	"slices"
	"strconv"
	"strings"
	"testing"

	"lariat/api"
	"lariat/tree"
)

// What the chapter says, by its words alone.

// The ops from 1 to 30, each with how many Kids it has, and its sign.
const allOps = `1 0 .
2 0 .
3 0 .
4 0 .
5 1 -
6 1 !
7 1 X
8 1 F
9 1 G
10 1 Y
11 1 Z
12 1 O
13 1 H
14 2 *
15 2 +
16 2 -
17 2 =
18 2 !=
19 2 <
20 2 <=
21 2 >
22 2 >=
23 2 U
24 2 R
25 2 S
26 2 T
27 2 &
28 2 |
29 2 ->
30 2 <->`

const keptWords = "enum var bool process when do true false X F G U R Y Z O H S T"

const (
	letters = "abcdefghijklmnopqrstuvwxyzABCDEFGHIJKLMNOPQRSTUVWXYZ"
	more    = letters + "0123456789_"
)

type anOp struct {
	kids int
	sign string
}

func opTable() map[int]anOp {
	m := map[int]anOp{}
	for _, line := range strings.Split(allOps, "\n") {
		f := strings.Fields(line)
		op, _ := strconv.Atoi(f[0])
		kids, _ := strconv.Atoi(f[1])
		m[op] = anOp{kids, strings.TrimPrefix(f[2], ".")}
	}
	return m
}

var ops = opTable()

func modelName(s string) bool {
	return s != "" && len(s) <= 32 && strings.Contains(letters, s[:1]) && strings.Trim(s, more) == "" &&
		!strings.ContainsFunc(s, func(r rune) bool { return !strings.ContainsRune(more, r) }) &&
		!slices.Contains(strings.Fields(keptWords), s)
}

// levels is how many levels of Exprs it has, itself the first one.
func levels(x api.Expr) int {
	n := 0
	for _, k := range x.Kids {
		n = max(n, levels(k))
	}
	return n + 1
}

// all is every Expr in it, itself too.
func all(x api.Expr) []api.Expr {
	l := []api.Expr{x}
	for _, k := range x.Kids {
		l = append(l, all(k)...)
	}
	return l
}

// modelAlone is what RIGHT says of an Expr without its Kids.
func modelAlone(x api.Expr) bool {
	op, ok := ops[x.Op]
	if !ok || len(x.Kids) != op.kids {
		return false
	}
	name, num := x.Name == "", x.Num == 0
	switch x.Op {
	case 1:
		num = x.Num >= 0 && x.Num <= 1000000
	case 2:
		num = x.Num == 0 || x.Num == 1
	case 3:
		name = modelName(x.Name)
	case 4:
		num = true
	}
	return name && num
}

func modelRight(x api.Expr) bool {
	return levels(x) <= 60 && !slices.ContainsFunc(all(x), func(y api.Expr) bool { return !modelAlone(y) })
}

func modelWritable(x api.Expr) bool {
	return modelRight(x) && !slices.ContainsFunc(all(x), func(y api.Expr) bool { return y.Op == 4 })
}

func modelText(x api.Expr) string {
	sign := ops[x.Op].sign
	part := func(i int) string {
		if len(x.Kids[i].Kids) > 0 {
			return "(" + modelText(x.Kids[i]) + ")"
		}
		return modelText(x.Kids[i])
	}
	switch {
	case x.Op == 1:
		return strconv.Itoa(int(x.Num))
	case x.Op == 2:
		return []string{"false", "true"}[x.Num]
	case x.Op == 3:
		return x.Name
	case len(x.Kids) == 2:
		return part(0) + " " + sign + " " + part(1)
	case strings.Contains(letters, sign):
		return sign + " " + part(0)
	}
	return sign + part(0)
}

// names are all that have one, lists how long each is, exprs all that are in it.
func partsOf(m api.Source) (names []string, lists []int, exprs []api.Expr) {
	lists = []int{len(m.Enums), len(m.Vars), len(m.Processes)}
	for _, e := range m.Enums {
		names = append(append(names, e.Name), e.Values...)
		lists = append(lists, len(e.Values))
	}
	for _, v := range m.Vars {
		names = append(names, v.Name)
		exprs = append(exprs, v.Begins...)
	}
	for _, p := range m.Processes {
		names, lists = append(names, p.Name), append(lists, len(p.Rules))
		for _, r := range p.Rules {
			exprs, lists = append(exprs, r.When), append(lists, len(r.Do))
			for _, a := range r.Do {
				names, exprs = append(names, a.Name), append(exprs, a.To)
			}
		}
	}
	return names, lists, exprs
}

func modelRightVar(v api.Decl) bool {
	ends := v.Low == 0 && v.High == 0
	if v.Type == "" {
		ends = v.Low >= -1000000 && v.Low <= 1000000 && v.High >= -1000000 && v.High <= 1000000
	}
	return ends && len(v.Begins) < 2 && (v.Type == "" || v.Type == "bool" || modelName(v.Type))
}

func modelRightSource(m api.Source) bool {
	names, lists, exprs := partsOf(m)
	for _, e := range m.Enums {
		if len(e.Values) == 0 {
			return false
		}
	}
	for _, v := range m.Vars {
		if !modelRightVar(v) {
			return false
		}
	}
	for _, p := range m.Processes {
		for _, r := range p.Rules {
			if len(r.Do) == 0 {
				return false
			}
		}
	}
	return !slices.ContainsFunc(names, func(s string) bool { return !modelName(s) }) &&
		slices.Max(lists) <= 32 &&
		!slices.ContainsFunc(exprs, func(x api.Expr) bool { return !modelWritable(x) })
}

func modelLines(m api.Source) string {
	var l []string
	for _, e := range m.Enums {
		l = append(l, "enum "+e.Name+" { "+strings.Join(e.Values, ", ")+" }")
	}
	for _, v := range m.Vars {
		s := "var " + v.Name + " : " + v.Type
		if v.Type == "" {
			s += strconv.Itoa(int(v.Low)) + ".." + strconv.Itoa(int(v.High))
		}
		if len(v.Begins) == 1 {
			s += " = " + modelText(v.Begins[0])
		}
		l = append(l, s+";")
	}
	for _, p := range m.Processes {
		l = append(l, "process "+p.Name+" {")
		for _, r := range p.Rules {
			var do []string
			for _, a := range r.Do {
				do = append(do, a.Name+" := "+modelText(a.To))
			}
			l = append(l, "  when "+modelText(r.When)+" do "+strings.Join(do, ", ")+";")
		}
		l = append(l, "}")
	}
	return strings.Join(append(l, ""), "\n")
}

// Random Exprs and models, from time to time with something that can't be.

type maker struct {
	r     *rand.Rand
	wrong int // one of so many things is wrong; 0: none
	vars  bool
}

func (m *maker) slip() bool { return m.wrong > 0 && m.r.IntN(m.wrong) == 0 }

func pick[T any](m *maker, l ...T) T { return l[m.r.IntN(len(l))] }

func (m *maker) name() string {
	if m.slip() {
		return pick(m, "", "X", "do", "9", "a b", "_a", "a\x00", "bool", strings.Repeat("k", 33), "-", "\xc3\xa4")
	}
	return pick(m, "x", "y", "Zz", "a_1", "enums", "k9_", strings.Repeat("k", 32))
}

func (m *maker) place() int { return m.r.IntN(3) }

func (m *maker) expr(deep int) api.Expr {
	x := api.Expr{Line: m.place(), Col: m.place()}
	x.Op = 5 + m.r.IntN(26)
	if deep <= 1 || m.r.IntN(4) == 0 {
		x.Op = 1 + m.r.IntN(3)
		if m.vars && m.r.IntN(3) == 0 {
			x.Op = 4
		}
	}
	switch x.Op {
	case 1:
		x.Num = pick[int64](m, 0, 1, 7, 10, 999999, 1000000)
	case 2:
		x.Num = m.r.Int64N(2)
	case 3:
		x.Name = m.name()
	case 4:
		x.Num = pick[int64](m, 0, -1, 3, 1<<62, -1<<63)
	}
	for range ops[x.Op].kids {
		x.Kids = append(x.Kids, m.expr(deep-1))
	}
	if m.slip() {
		m.spoil(&x)
	}
	return x
}

func (m *maker) spoil(x *api.Expr) {
	switch m.r.IntN(5) {
	case 0:
		x.Op = pick(m, 0, -1, 31, 32, 4, 1<<40, -1<<63, 1+m.r.IntN(30))
	case 1:
		x.Num = pick[int64](m, 1, 2, -1, 1000001, 1<<32, -1<<63)
	case 2:
		x.Name = m.name()
	case 3:
		x.Kids = append(x.Kids, api.Expr{Op: api.OpNum})
	case 4:
		x.Kids = x.Kids[:len(x.Kids)/2]
	}
}

func many[T any](m *maker, least int, make func() T) []T {
	n := least + m.r.IntN(3)
	if m.slip() {
		n = pick(m, 0, 1, 2, 31, 32, 33)
	}
	var l []T
	for range n {
		l = append(l, make())
	}
	return l
}

func (m *maker) decl() api.Decl {
	v := api.Decl{Name: m.name(), Line: m.place(), Col: m.place()}
	switch m.r.IntN(3) {
	case 0:
		v.Type = pick(m, "bool", m.name())
	default:
		v.Low, v.High = pick[int64](m, -1000000, -7, 0, 1000000), pick[int64](m, -1000000, 0, 3, 1000000)
	}
	if m.slip() {
		v.Type = pick(m, "", "X", "bools", "enum", "1", "bool")
	}
	if m.slip() {
		v.High = pick[int64](m, -1, 1, 1000001, -1000001, 1<<62)
	}
	if m.slip() {
		v.Low = pick[int64](m, -1, 1, 1000001, -1000001, -1<<63)
	}
	for range m.r.IntN(2) {
		v.Begins = append(v.Begins, m.expr(2))
	}
	if m.slip() {
		v.Begins = append(v.Begins, m.expr(2))
	}
	return v
}

func (m *maker) rule() api.Rule {
	return api.Rule{When: m.expr(3), Do: many(m, 1, func() api.Assign {
		return api.Assign{Name: m.name(), To: m.expr(3), Line: m.place(), Col: m.place()}
	})}
}

func (m *maker) source() api.Source {
	return api.Source{
		Enums: many(m, 0, func() api.Enum {
			return api.Enum{Name: m.name(), Values: many(m, 1, m.name), Line: m.place(), Col: m.place()}
		}),
		Vars: many(m, 0, m.decl),
		Processes: many(m, 0, func() api.Process {
			return api.Process{Name: m.name(), Rules: many(m, 0, m.rule), Line: m.place(), Col: m.place()}
		}),
	}
}

func exprAsTheModel(t *testing.T, x api.Expr) (rights, texts int) {
	t.Helper()
	right, writable := modelRight(x), modelWritable(x)
	if got := tree.Right(x); got != right {
		t.Errorf("Right %v: %v", got, x)
	}
	if got := tree.Size(x); got != len(all(x)) {
		t.Errorf("Size %v: %v", got, x)
	}
	want, wantErr := "", api.ErrTree
	if writable {
		want, wantErr, texts = modelText(x), api.OK, 1
	}
	if s, err := tree.Expr(x); s != want || err != wantErr {
		t.Errorf("%v %v: %q %v, not %q %v", x, writable, s, err, want, wantErr)
	}
	if right {
		rights = 1
	}
	return rights, texts
}

func TestRandomExprs(t *testing.T) {
	for _, wrong := range []int{0, 100, 10, 3} {
		m := &maker{r: rand.New(rand.NewPCG(uint64(wrong), 14)), wrong: wrong}
		rights, texts := 0, 0
		for i := range 8000 {
			m.vars = i%2 == 0
			r, x := exprAsTheModel(t, m.expr(1+m.r.IntN(6)))
			rights, texts = rights+r, texts+x
		}
		if rights < 500 || texts < 500 || (rights == 8000) != (wrong == 0) {
			t.Error(wrong, rights, texts)
		}
	}
}

func TestRandomSources(t *testing.T) {
	for _, wrong := range []int{0, 300, 60} {
		m := &maker{r: rand.New(rand.NewPCG(uint64(wrong), 1414)), wrong: wrong}
		rights := 0
		for range 4000 {
			s := m.source()
			want, wantErr := "", api.ErrTree
			if modelRightSource(s) {
				want, wantErr = modelLines(s), api.OK
				rights++
			}
			if got, err := tree.Source(s); got != want || err != wantErr {
				t.Fatalf("%v: %q %v, not %q %v", s, got, err, want, wantErr)
			}
		}
		if rights < 100 || (rights == 4000) != (wrong == 0) {
			t.Error(wrong, rights)
		}
	}
}
