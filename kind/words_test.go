package kind_test

import (
	"math/rand/v2"
	"slices"
	"strconv"
	"strings"
	"testing"

	"lariat/api"
	"lariat/kind"
	"lariat/parse"
	"lariat/tree"
)

// A model by the chapter's words: each part of an expression is looked at in the order in which faults are told, and the first fault is the answer.

// A teller tells what fits, with so many of the variables known.
type teller struct {
	s    api.Source
	vars int
}

var fine = api.Fault{}

func at(code api.Errno, line, col int) api.Fault { return api.Fault{Code: code, Line: line, Col: col} }

// A told is what is known of a part: its sort (num, bool or an enum's name), and its ends.
type told struct {
	sort      string
	low, high int64
}

// inOrder: all parts, the Kids first, and which of them are below a comparison of any sort.
func inOrder(x *api.Expr, below bool, l []*api.Expr, beneath map[*api.Expr]bool) []*api.Expr {
	for i := range x.Kids {
		l = inOrder(&x.Kids[i], below || x.Op == api.OpEq || x.Op == api.OpNe, l, beneath)
	}
	beneath[x] = below
	return append(l, x)
}

func (o teller) enumOf(value string) (string, int) {
	for _, e := range o.s.Enums {
		if i := slices.Index(e.Values, value); i >= 0 {
			return e.Name, i
		}
	}
	return "", -1
}

func (o teller) varOf(name string) int {
	return slices.IndexFunc(o.s.Vars[:o.vars], func(d api.Decl) bool { return d.Name == name })
}

func (o teller) sortOf(d api.Decl) told {
	switch d.Type {
	case "":
		return told{"num", d.Low, d.High}
	case "bool":
		return told{"bool", 0, 1}
	}
	i := slices.IndexFunc(o.s.Enums, func(e api.Enum) bool { return e.Name == d.Type })
	return told{d.Type, 0, int64(len(o.s.Enums[i].Values)) - 1}
}

func reckon(op int, a, b int64) int64 {
	yes := map[int]bool{
		api.OpEq: a == b, api.OpNe: a != b, api.OpLt: a < b, api.OpLe: a <= b, api.OpGt: a > b, api.OpGe: a >= b,
		api.OpAnd: a == 1 && b == 1, api.OpOr: a == 1 || b == 1, api.OpImplies: a == 0 || b == 1, api.OpIff: a == b, api.OpNot: a == 0,
	}
	switch op {
	case api.OpMul:
		return a * b
	case api.OpAdd:
		return a + b
	case api.OpSub:
		return a - b
	case api.OpNeg:
		return -a
	}
	if yes[op] {
		return 1
	}
	return 0
}

// part: what is known of a part by what is known of its Kids.
func (o teller) part(x *api.Expr, kids []told, timed bool) (told, api.Errno) {
	all := func(sort string) bool { return !slices.ContainsFunc(kids, func(k told) bool { return k.sort != sort }) }
	is := func(ok bool, sort string) (told, api.Errno) {
		if !ok {
			return told{}, api.ErrKind
		}
		return told{sort: sort}, api.OK
	}
	switch tree.Sign(x.Op) {
	case "":
		return o.leaf(x)
	case "-", "*", "+":
		return ofEnds(x.Op, kids, all("num"))
	case "<", "<=", ">", ">=":
		return is(all("num"), "bool")
	case "=", "!=":
		return is(kids[0].sort == kids[1].sort, "bool")
	case "!", "&", "|", "->", "<->":
		return is(all("bool"), "bool")
	}
	return is(all("bool") && timed, "bool")
}

func (o teller) leaf(x *api.Expr) (told, api.Errno) {
	switch x.Op {
	case api.OpNum:
		return told{"num", x.Num, x.Num}, api.OK
	case api.OpBool:
		return told{sort: "bool"}, api.OK
	}
	if v := o.varOf(x.Name); v >= 0 {
		return o.sortOf(o.s.Vars[v]), api.OK
	}
	if enum, i := o.enumOf(x.Name); i >= 0 {
		return told{sort: enum}, api.OK
	}
	return told{}, api.ErrName
}

func ofEnds(op int, kids []told, ok bool) (told, api.Errno) {
	if !ok {
		return told{}, api.ErrKind
	}
	var l []int64
	last := kids[len(kids)-1]
	for _, a := range []int64{kids[0].low, kids[0].high} {
		l = append(l, reckon(op, a, last.low), reckon(op, a, last.high))
	}
	k := told{"num", slices.Min(l), slices.Max(l)}
	if k.low < -100000000 || k.high > 100000000 {
		return told{}, api.ErrMany
	}
	return k, api.OK
}

// expr: the sort of an expression, or its fault.
func (o teller) expr(x *api.Expr, formula bool) (string, api.Fault) {
	below, known := map[*api.Expr]bool{}, map[*api.Expr]told{}
	for _, p := range inOrder(x, false, nil, below) {
		var kids []told
		for i := range p.Kids {
			kids = append(kids, known[&p.Kids[i]])
		}
		k, err := o.part(p, kids, formula && !below[p])
		if err != api.OK {
			return "", at(err, p.Line, p.Col)
		}
		known[p] = k
	}
	return known[x].sort, fine
}

// nameless: an expression without names.
func (o teller) nameless(x api.Expr) api.Expr {
	if x.Op == api.OpName {
		if v := o.varOf(x.Name); v >= 0 {
			return leaf(api.OpVar, int64(v), x.Line, x.Col)
		}
		_, i := o.enumOf(x.Name)
		return leaf(api.OpNum, int64(i), x.Line, x.Col)
	}
	var kids []api.Expr
	for _, k := range x.Kids {
		kids = append(kids, o.nameless(k))
	}
	x.Kids = kids
	return x
}

func (o teller) value(x *api.Expr) int64 {
	switch len(x.Kids) {
	case 1:
		return reckon(x.Op, o.value(&x.Kids[0]), 0)
	case 2:
		return reckon(x.Op, o.value(&x.Kids[0]), o.value(&x.Kids[1]))
	}
	if _, i := o.enumOf(x.Name); i >= 0 {
		return int64(i)
	}
	return x.Num
}

// taken: is a name one of so many enums, of their values, or of so many variables or processes?
func (o teller) taken(name string, enums, vars, processes int) bool {
	var l []string
	for _, e := range o.s.Enums[:enums] {
		l = append(append(l, e.Name), e.Values...)
	}
	for _, d := range o.s.Vars[:vars] {
		l = append(l, d.Name)
	}
	for _, p := range o.s.Processes[:processes] {
		l = append(l, p.Name)
	}
	return slices.Contains(l, name)
}

func (o teller) enumFault(i int) api.Fault {
	e := o.s.Enums[i]
	l := append([]string{e.Name}, e.Values...)
	for j, name := range l {
		if o.taken(name, i, 0, 0) || slices.Contains(l[:j], name) {
			return at(api.ErrTwice, e.Line, e.Col)
		}
	}
	return fine
}

func (o teller) varFault(i int) api.Fault {
	d := o.s.Vars[i]
	o.vars = i
	isEnum := slices.ContainsFunc(o.s.Enums, func(e api.Enum) bool { return e.Name == d.Type })
	switch {
	case o.taken(d.Name, len(o.s.Enums), i, 0):
		return at(api.ErrTwice, d.Line, d.Col)
	case d.Type != "" && d.Type != "bool" && !isEnum:
		return at(api.ErrName, d.Line, d.Col)
	case d.Low > d.High:
		return at(api.ErrRange, d.Line, d.Col)
	case d.High-d.Low+1 > 1024:
		return at(api.ErrMany, d.Line, d.Col)
	}
	if len(d.Begins) == 1 {
		if fault := o.firstFault(&d.Begins[0], o.sortOf(d)); fault != fine {
			return fault
		}
	}
	states := 1.0
	for _, v := range o.s.Vars[:i+1] {
		states *= float64(o.sortOf(v).high - o.sortOf(v).low + 1)
	}
	if states > 1<<48 {
		return at(api.ErrMany, d.Line, d.Col)
	}
	return fine
}

func (o teller) firstFault(x *api.Expr, of told) api.Fault {
	sort, fault := o.expr(x, false)
	if fault != fine {
		return fault
	}
	if sort != of.sort {
		return at(api.ErrKind, x.Line, x.Col)
	}
	for _, p := range inOrder(x, false, nil, map[*api.Expr]bool{}) {
		if p.Op == api.OpName && o.varOf(p.Name) >= 0 {
			return at(api.ErrName, p.Line, p.Col)
		}
	}
	if n := o.value(x); n < of.low || n > of.high {
		return at(api.ErrRange, x.Line, x.Col)
	}
	return fine
}

func (o teller) ruleFault(r api.Rule) api.Fault {
	sort, fault := o.expr(&r.When, false)
	if fault == fine && sort != "bool" {
		fault = at(api.ErrKind, r.When.Line, r.When.Col)
	}
	for i := 0; fault == fine && i < len(r.Do); i++ {
		a := r.Do[i]
		v := o.varOf(a.Name)
		if v < 0 {
			return at(api.ErrName, a.Line, a.Col)
		}
		if slices.ContainsFunc(r.Do[:i], func(b api.Assign) bool { return a.Name == b.Name }) {
			return at(api.ErrTwice, a.Line, a.Col)
		}
		sort, fault = o.expr(&a.To, false)
		if fault == fine && sort != o.sortOf(o.s.Vars[v]).sort {
			fault = at(api.ErrKind, a.To.Line, a.To.Col)
		}
	}
	return fault
}

// fault: the first one of a whole model.
func (o teller) fault() api.Fault {
	for i := range o.s.Enums {
		if fault := o.enumFault(i); fault != fine {
			return fault
		}
	}
	for i := range o.s.Vars {
		if fault := o.varFault(i); fault != fine {
			return fault
		}
	}
	for i, p := range o.s.Processes {
		if o.taken(p.Name, len(o.s.Enums), len(o.s.Vars), i) {
			return at(api.ErrTwice, p.Line, p.Col)
		}
		for _, r := range p.Rules {
			if fault := o.ruleFault(r); fault != fine {
				return fault
			}
		}
	}
	return fine
}

// model: what the whole model is, if it fits.
func (o teller) model() api.Model {
	m := api.Model{Enums: o.s.Enums}
	for _, d := range o.s.Vars {
		of := o.sortOf(d)
		v := api.Var{Name: d.Name, Kind: api.KindNum, Low: of.low, High: of.high, Begins: len(d.Begins) > 0}
		if d.Type == "bool" {
			v.Kind = api.KindBool
		} else if d.Type != "" {
			v.Kind, v.Enum = api.KindEnum, d.Type
		}
		if v.Begins {
			v.First = o.value(&d.Begins[0])
		}
		m.Vars = append(m.Vars, v)
	}
	for _, p := range o.s.Processes {
		for _, r := range p.Rules {
			move := api.Move{When: o.nameless(r.When)}
			for _, a := range r.Do {
				move.Do = append(move.Do, api.Set{Var: o.varOf(a.Name), To: o.nameless(a.To)})
			}
			m.Moves = append(m.Moves, move)
		}
	}
	return m
}

// Random texts, mostly such that fit.

// A maker makes texts; one of so many choices is a wrong one.
type maker struct {
	*rand.Rand
	wrong int
	names map[string][]string // of each sort the names that are of it
	words bool                // are words of time wanted?
}

func (m *maker) spoilt() bool { return m.IntN(m.wrong) == 0 }

func pick[T any](m *maker, l ...T) T { return l[m.IntN(len(l))] }

func (m *maker) anySort() string { return pick(m, "num", "bool", "E", "D") }

// expr: a text of that sort of about so many signs.
func (m *maker) expr(sort string, size int) string {
	if m.spoilt() {
		sort = m.anySort()
	}
	if size <= 0 || sort == "E" || sort == "D" {
		return m.leaf(sort)
	}
	left := m.IntN(size)
	two := func(of string, signs ...string) string {
		return "(" + m.expr(of, left) + " " + pick(m, signs...) + " " + m.expr(of, size-1-left) + ")"
	}
	if sort == "num" {
		if m.IntN(5) == 0 {
			return "-(" + m.expr("num", size-1) + ")"
		}
		return two("num", "+", "-", "*", "+", "-")
	}
	switch k := m.IntN(10); {
	case k == 0:
		return "!(" + m.expr("bool", size-1) + ")"
	case k < 3 && (m.words || m.spoilt()):
		return pick(m, "X", "F", "G", "Y", "Z", "O", "H") + " (" + m.expr("bool", size-1) + ")"
	case k < 5 && (m.words || m.spoilt()):
		return two("bool", "U", "R", "S", "T")
	case k < 7:
		return two("bool", "&", "|", "->", "<->")
	case k < 8:
		return two("num", "<", "<=", ">", ">=", "=", "!=")
	}
	words := m.words
	m.words = m.words && m.spoilt()
	s := two(m.anySort(), "=", "!=")
	m.words = words
	return s
}

func (m *maker) leaf(sort string) string {
	l := slices.Clone(m.names[sort])
	switch sort {
	case "num":
		l = append(l, strconv.Itoa(m.IntN(5)), pick(m, "10", "10000", "1000000"))
	case "bool":
		l = append(l, "true", "false")
	}
	if m.spoilt() || len(l) == 0 {
		l = append(l, "x", "nothing", "E", "p1", "v1", "v4", "e1")
	}
	return pick(m, l...)
}

func (m *maker) enums() string {
	if m.spoilt() {
		return "enum E { e0, e1, " + pick(m, "e0", "E", "D", "d0", "v1", "x") + " }\nenum " + pick(m, "D", "E", "e0") + " { d0 }\n"
	}
	return "enum E { e0, e1, e2 }\nenum D { d0, d1 }\n"
}

// decl: a variable; a number may have many values, but mostly doesn't.
func (m *maker) decl(name string) string {
	sort := m.anySort()
	of := sort
	if sort == "num" {
		low := m.IntN(20) - 10
		high := low + pick(m, m.IntN(10), 1023, 0)
		if m.spoilt() {
			high = pick(m, low-1, low+1024, low-5000, low+5000)
		}
		of = strconv.Itoa(low) + ".." + strconv.Itoa(high)
	} else if m.spoilt() {
		of = pick(m, "x", "F1", "e0", "v0")
	}
	s := "var " + name + " : " + of
	if m.IntN(2) == 0 {
		s += " = " + m.begins(sort)
	}
	m.names[sort] = append(m.names[sort], name)
	return s + ";\n"
}

// begins: an expression, mostly without variables.
func (m *maker) begins(sort string) string {
	names := m.names
	if !m.spoilt() {
		m.names = map[string][]string{"E": {"e0", "e1"}, "D": {"d0", "d1"}}
	}
	s := m.expr(sort, m.IntN(4))
	m.names = names
	return s
}

func (m *maker) rule() string {
	s := "  when " + m.expr("bool", m.IntN(5)) + " do "
	var l, to []string
	for _, sort := range []string{"num", "bool", "E", "D"} {
		for _, name := range m.names[sort] {
			if name[0] == 'v' && m.IntN(2) == 0 && (!slices.Contains(l, name) || m.spoilt()) {
				l, to = append(l, name), append(to, sort)
			}
			if m.spoilt() {
				l, to = append(l, name), append(to, sort)
			}
		}
	}
	if len(l) == 0 || m.spoilt() {
		l, to = append(l, pick(m, "v0", "v1", "x", "E", "p0")), append(to, "num")
	}
	for i, name := range l {
		if i > 0 {
			s += ", "
		}
		s += name + " := " + m.expr(to[i], m.IntN(4))
	}
	return s + ";\n"
}

func (m *maker) model() string {
	m.names = map[string][]string{"E": {"e0", "e1", "e2"}, "D": {"d0", "d1"}}
	l := []string{m.enums()}
	for i := range m.IntN(7) {
		name := "v" + strconv.Itoa(i)
		if m.spoilt() {
			name = pick(m, "v0", "E", "e0", "p0", "w")
		}
		l = append(l, m.decl(name))
	}
	for i := range m.IntN(3) {
		name := "p" + strconv.Itoa(i)
		if m.spoilt() {
			name = pick(m, "p0", "E", "e0", "v0", "w")
		}
		s := "process " + name + " {\n"
		for range m.IntN(4) {
			s += m.rule()
		}
		l = append(l, s+"}\n")
	}
	if m.IntN(2) == 0 {
		slices.Reverse(l)
	}
	return strings.Join(l, "")
}

func TestModelsByTheWords(t *testing.T) {
	counts := map[api.Errno]int{}
	for seed := range uint64(40000) {
		m := &maker{Rand: rand.New(rand.NewPCG(seed, 16)), wrong: []int{1 << 30, 400, 100, 30}[seed%4]}
		s := m.model()
		source := parsed(t, s)
		got, fault := kind.Model(source)
		o := teller{source, len(source.Vars)}
		want := o.fault()
		counts[want.Code]++
		if fault != want {
			t.Fatalf("%s\n%v, not %v", s, fault, want)
		}
		if wanted := (api.Model{}); want != fine && !same(got, wanted) || want == fine && !same(got, o.model()) {
			t.Fatalf("%s\n%v", s, got)
		}
	}
	t.Log(counts)
	for _, code := range []api.Errno{api.OK, api.ErrName, api.ErrTwice, api.ErrKind, api.ErrRange, api.ErrMany} {
		if counts[code] < 200 {
			t.Error(code, counts[code])
		}
	}
}

func TestFormulasByTheWords(t *testing.T) {
	counts := map[api.Errno]int{}
	for seed := range uint64(40000) {
		m := &maker{Rand: rand.New(rand.NewPCG(seed, 17)), wrong: 1 << 30, words: true}
		model := m.model()
		source := parsed(t, model)
		fits, fault := kind.Model(source)
		if fault != fine {
			continue
		}
		m.wrong = []int{1 << 30, 60, 20}[seed%3]
		s := m.expr("bool", m.IntN(20))
		x, fault := parse.Expr(s)
		if fault != fine {
			continue // too deep
		}
		o := teller{source, len(source.Vars)}
		sort, want := o.expr(&x, true)
		if want == fine && sort != "bool" {
			want = at(api.ErrKind, x.Line, x.Col)
		}
		counts[want.Code]++
		got, fault := kind.Formula(fits, x)
		if fault != want || want != fine && !same(got, api.Expr{}) || want == fine && !same(got, o.nameless(x)) {
			t.Fatalf("%s\n%s\n%v, not %v: %v", model, s, fault, want, got)
		}
		readModel, readX, readFault := kind.Read(model, s)
		if readFault != want || want != fine && !same(readModel, api.Model{}) || want == fine && !same(readModel, fits) || !same(readX, got) {
			t.Fatalf("%s\n%s\n%v, not %v: %v %v", model, s, readFault, want, readModel, readX)
		}
	}
	t.Log(counts)
	for _, code := range []api.Errno{api.OK, api.ErrName, api.ErrKind, api.ErrMany} {
		if counts[code] < 200 {
			t.Error(code, counts[code])
		}
	}
}

// P16.3 by all values: where each variable stands in an expression once, its ends are just what it may be.

// ranges are the variables of that test: what each may be, and what it is now.
type ranges struct {
	low, high, now []int64
}

func (r *ranges) value(x *api.Expr) int64 {
	switch len(x.Kids) {
	case 1:
		return reckon(x.Op, r.value(&x.Kids[0]), 0)
	case 2:
		return reckon(x.Op, r.value(&x.Kids[0]), r.value(&x.Kids[1]))
	}
	if x.Op == api.OpName {
		v, _ := strconv.Atoi(x.Name[1:])
		return r.now[v]
	}
	return x.Num
}

// beyond: can a part be too far from 0, with any values of the variables from that one on?
func (r *ranges) beyond(x *api.Expr, from int) bool {
	if from == len(r.low) {
		n := r.value(x)
		return n < -100000000 || n > 100000000
	}
	for r.now[from] = r.low[from]; r.now[from] <= r.high[from]; r.now[from]++ {
		if r.beyond(x, from+1) {
			return true
		}
	}
	return false
}

// numbers: a text of about so many signs, in which each variable stands once.
func (m *maker) numbers(size int, r *ranges) string {
	if size > 0 && m.IntN(5) == 0 {
		return "-(" + m.numbers(size-1, r) + ")"
	}
	if size > 0 {
		left := m.IntN(size)
		return "(" + m.numbers(left, r) + pick(m, "+", "-", "*", "*") + m.numbers(size-1-left, r) + ")"
	}
	if len(r.low) == 5 || m.IntN(3) == 0 {
		return strconv.Itoa(pick(m, 0, 1, 2, 7, 99, 100, 1000, 10000, 1000000))
	}
	low := pick(m, -1000000, -10000, -1001, -100, -3, -2, -1, 0, 1, 98, 9998, 999998)
	r.low, r.high, r.now = append(r.low, int64(low)), append(r.high, int64(low+m.IntN(3))), append(r.now, 0)
	return "v" + strconv.Itoa(len(r.low)-1)
}

func TestEndsByAllValues(t *testing.T) {
	counts := map[api.Errno]int{}
	for seed := range uint64(20000) {
		m := &maker{Rand: rand.New(rand.NewPCG(seed, 18))}
		r := &ranges{}
		s := m.numbers(1+m.IntN(7), r) + " = 0"
		model := ""
		for i := range r.low {
			model += "var v" + strconv.Itoa(i) + " : " + strconv.FormatInt(r.low[i], 10) + ".." + strconv.FormatInt(r.high[i], 10) + ";"
		}
		x := expr(t, s)
		want := fine
		for _, p := range inOrder(&x.Kids[0], false, nil, map[*api.Expr]bool{}) {
			if r.beyond(p, 0) {
				want = at(api.ErrMany, p.Line, p.Col)
				break
			}
		}
		counts[want.Code]++
		if _, fault := kind.Formula(fitting(t, model), x); fault != want {
			t.Fatalf("%s %s: %v, not %v", model, s, fault, want)
		}
	}
	t.Log(counts)
	if counts[api.OK] < 1000 || counts[api.ErrMany] < 1000 {
		t.Error(counts)
	}
}
