package parse_test

import (
	"math/rand/v2"
	"reflect"
	"slices"
	"strconv"
	"strings"
	"testing"

	"lariat/api"
	"lariat/parse"
	"lariat/tree"
	"lariat/word"
)

// A model by the chapter's words: which word can't stand is told by what may come behind the words ahead of it; which parts an expression has is told by the sign that binds least.

// aheadOps are signs ahead of a value.
var aheadOps = map[string]int{"-": api.OpNeg, "!": api.OpNot, "X": api.OpX, "F": api.OpF, "G": api.OpG, "Y": api.OpY, "Z": api.OpZ, "O": api.OpO, "H": api.OpH}

// betweenOps are signs between two values.
var betweenOps = map[string]int{"*": api.OpMul, "+": api.OpAdd, "-": api.OpSub, "=": api.OpEq, "!=": api.OpNe, "<": api.OpLt, "<=": api.OpLe, ">": api.OpGt, ">=": api.OpGe, "U": api.OpU, "R": api.OpR, "S": api.OpS, "T": api.OpT, "&": api.OpAnd, "|": api.OpOr, "->": api.OpImplies, "<->": api.OpIff}

// lines are the signs between two values, those that bind least first.
var lines = []struct {
	signs string
	last  bool // the last one is the inner one
}{{"<->", false}, {"->", true}, {"|", false}, {"&", false}, {"U R S T", true}, {"= != < <= > >=", false}, {"+ -", false}, {"*", false}}

func in(text, list string) bool { return slices.Contains(strings.Fields(list), text) }

func isValue(t api.Token) bool {
	return t.Kind == api.TokNumber || t.Kind == api.TokName || in(t.Text, "true false")
}

// modelEnd: behind how many words an expression ends, or which word in it can't stand.
func modelEnd(l []api.Token) (end, wrong int) {
	var open []string // "(" and signs ahead of values
	compared := []bool{false}
	value := false
	closed := func() {
		for len(open) > 0 && open[len(open)-1] != "(" {
			open = open[:len(open)-1]
		}
		value = true
	}
	for i, t := range l {
		_, ahead := aheadOps[t.Text]
		_, between := betweenOps[t.Text]
		again := in(t.Text, lines[5].signs) && compared[len(compared)-1]
		switch {
		case len(open) > 60:
			return -1, i
		case !value && isValue(t):
			closed()
		case !value && (ahead || t.Text == "("):
			open = append(open, t.Text)
			if t.Text == "(" {
				compared = append(compared, false)
			}
		case value && between && !again:
			value = false
			if in(t.Text, lines[5].signs) {
				compared[len(compared)-1] = true
			} else if !in(t.Text, "+ - *") {
				compared[len(compared)-1] = false
			}
		case value && len(open) == 0:
			return i, -1
		case value && t.Text == ")":
			open, compared = open[:len(open)-1], compared[:len(compared)-1]
			closed()
		default:
			return -1, i
		}
	}
	panic("no end")
}

// modelTree: what an expression's words are together.
func modelTree(l []api.Token) api.Expr {
	at, op := -1, 0
	for _, line := range lines {
		deep := 0
		for i, t := range l {
			switch {
			case t.Text == "(":
				deep++
			case t.Text == ")":
				deep--
			case deep == 0 && in(t.Text, line.signs) && i > 0 && (isValue(l[i-1]) || l[i-1].Text == ")") && (at < 0 || !line.last):
				at, op = i, betweenOps[t.Text]
			}
		}
		if at >= 0 {
			return api.Expr{Op: op, Kids: []api.Expr{modelTree(l[:at]), modelTree(l[at+1:])}, Line: l[at].Line, Col: l[at].Col}
		}
	}
	t := l[0]
	x := api.Expr{Line: t.Line, Col: t.Col}
	switch {
	case t.Text == "(":
		return modelTree(l[1 : len(l)-1])
	case t.Kind == api.TokNumber:
		x.Op, x.Num = api.OpNum, t.Num
	case t.Kind == api.TokName:
		x.Op, x.Name = api.OpName, t.Text
	case isValue(t):
		x.Op, x.Num = api.OpBool, int64(len("false")-len(t.Text))
	default:
		x.Op, x.Kids = aheadOps[t.Text], []api.Expr{modelTree(l[1:])}
	}
	return x
}

func levels(x api.Expr) int {
	n := 0
	for _, k := range x.Kids {
		n = max(n, levels(k))
	}
	return n + 1
}

// modelWhole: an expression, and behind how many words it ends, or which word is wrong.
func modelWhole(l []api.Token) (x api.Expr, end, wrong int) {
	end, wrong = modelEnd(l)
	if wrong >= 0 {
		return x, 0, wrong
	}
	x = modelTree(l[:end])
	if levels(x) > 60 {
		return api.Expr{}, 0, 0
	}
	return x, end, -1
}

func faultAt(t api.Token) api.Fault {
	return api.Fault{Code: api.ErrSyntax, Line: t.Line, Col: t.Col}
}

func modelExpr(s string) (api.Expr, api.Fault) {
	l, fault := word.Cut(s)
	if fault.Code != 0 {
		return api.Expr{}, fault
	}
	x, end, wrong := modelWhole(l)
	switch {
	case wrong >= 0:
		return api.Expr{}, faultAt(l[wrong])
	case l[end].Kind != api.TokEnd:
		return api.Expr{}, faultAt(l[end])
	}
	return x, api.Fault{}
}

// goesOn tells of each place in a model what may come there, and where that leads: a word, NAME, NUMBER, END or EXPR.
var goesOn = map[string]string{
	"top":      "enum enum1 var var1 process process1 END top",
	"enum1":    "NAME enum2",
	"enum2":    "{ value",
	"value":    "NAME value1",
	"value1":   ", value } top",
	"var1":     "NAME var2",
	"var2":     ": type",
	"type":     "bool begins NAME begins - low NUMBER dots",
	"low":      "NUMBER dots",
	"dots":     ".. high",
	"high":     "- high1 NUMBER begins",
	"high1":    "NUMBER begins",
	"begins":   "= first ; top",
	"first":    "EXPR first1",
	"first1":   "; top",
	"process1": "NAME process2",
	"process2": "{ rules",
	"rules":    "when when } top",
	"when":     "EXPR when1",
	"when1":    "do do",
	"do":       "NAME do1",
	"do1":      ":= to",
	"to":       "EXPR to1",
	"to1":      ", do ; rules",
}

func classOf(t api.Token) string {
	switch t.Kind {
	case api.TokName:
		return "NAME"
	case api.TokNumber:
		return "NUMBER"
	case api.TokEnd:
		return "END"
	}
	return t.Text
}

// modelStep: where a word leads from a place; empty: nowhere.
func modelStep(place string, t api.Token) string {
	l := strings.Fields(goesOn[place])
	for i := 0; i < len(l); i += 2 {
		if l[i] == classOf(t) {
			return l[i+1]
		}
	}
	return ""
}

func modelSource(s string) (api.Source, api.Fault) {
	l, fault := word.Cut(s)
	if fault.Code != 0 {
		return api.Source{}, fault
	}
	var m api.Source
	place := "top"
	for minus := false; place != "top" || l[0].Kind != api.TokEnd; {
		t := l[0]
		if in(place, "first when to") {
			x, end, wrong := modelWhole(l)
			if wrong >= 0 {
				return api.Source{}, faultAt(l[wrong])
			}
			modelPut(&m, place, x)
			l, place = l[end:], place+"1"
			continue
		}
		next := modelStep(place, t)
		if next == "" || !modelAdd(&m, place, t, minus) {
			return api.Source{}, faultAt(t)
		}
		minus = t.Text == "-"
		l, place = l[1:], next
	}
	return m, api.Fault{}
}

func end[T any](l []T) *T { return &l[len(l)-1] }

func modelPut(m *api.Source, place string, x api.Expr) {
	switch place {
	case "first":
		v := end(m.Vars)
		v.Begins = append(v.Begins, x)
	case "when":
		end(end(m.Processes).Rules).When = x
	case "to":
		end(end(end(m.Processes).Rules).Do).To = x
	}
}

// modelAdd puts a word into a model; false: there are too many.
func modelAdd(m *api.Source, place string, t api.Token, minus bool) bool {
	num := t.Num
	if minus {
		num = -num
	}
	switch place + " " + classOf(t) {
	case "top enum":
		m.Enums = append(m.Enums, api.Enum{})
	case "top var":
		m.Vars = append(m.Vars, api.Decl{})
	case "top process":
		m.Processes = append(m.Processes, api.Process{})
	case "enum1 NAME":
		e := end(m.Enums)
		e.Name, e.Line, e.Col = t.Text, t.Line, t.Col
	case "value NAME":
		e := end(m.Enums)
		e.Values = append(e.Values, t.Text)
		return len(e.Values) <= 32
	case "var1 NAME":
		v := end(m.Vars)
		v.Name, v.Line, v.Col = t.Text, t.Line, t.Col
	case "type NAME", "type bool":
		end(m.Vars).Type = t.Text
	case "type NUMBER", "low NUMBER":
		end(m.Vars).Low = num
	case "high NUMBER", "high1 NUMBER":
		end(m.Vars).High = num
	case "process1 NAME":
		p := end(m.Processes)
		p.Name, p.Line, p.Col = t.Text, t.Line, t.Col
	case "rules when":
		p := end(m.Processes)
		p.Rules = append(p.Rules, api.Rule{})
		return len(p.Rules) <= 32
	case "do NAME":
		r := end(end(m.Processes).Rules)
		r.Do = append(r.Do, api.Assign{Name: t.Text, Line: t.Line, Col: t.Col})
		return len(r.Do) <= 32
	}
	return max(len(m.Enums), len(m.Vars), len(m.Processes)) <= 32
}

// Random texts, word by word.

type maker struct {
	r *rand.Rand
	l []string
}

func (m *maker) one(of ...string) { m.l = append(m.l, of[m.r.IntN(len(of))]) }

func (m *maker) words(list string) { m.one(strings.Fields(list)...) }

func (m *maker) name() { m.words("a b x y9 red Color do_ " + strings.Repeat("k", 32)) }

// expr adds an expression of about so many signs.
func (m *maker) expr(size int, compares bool) {
	switch k := m.r.IntN(12); {
	case size <= 0:
		m.words("a b x 0 7 1000000 true false Xx y9")
	case k < 3:
		m.words("- ! X F G Y Z O H")
		m.atom(size - 1)
	case k < 5:
		m.one("(")
		m.expr(size-1, true)
		m.one(")")
	default:
		left := m.r.IntN(size)
		m.expr(left, compares && k > 9)
		if k <= 9 || !compares {
			m.words("* + - + - U R S T & | -> <->")
		} else {
			m.words("= != < <= > >=")
		}
		m.expr(size-1-left, compares && k > 9)
	}
}

// atom adds a value.
func (m *maker) atom(size int) {
	switch {
	case size <= 0:
		m.expr(0, false)
	case m.r.IntN(2) == 0:
		m.words("- ! X F G Y Z O H")
		m.atom(size - 1)
	default:
		m.one("(")
		m.expr(size-1, true)
		m.one(")")
	}
}

// times does a thing so many times, with commas between.
func (m *maker) times(n int, what func()) {
	for i := range n {
		if i > 0 {
			m.one(",")
		}
		what()
	}
}

func (m *maker) bound() {
	if m.r.IntN(3) == 0 {
		m.one("-")
	}
	m.words("0 1 3 1000000")
}

// few: mostly a small number.
func (m *maker) few(least int) int {
	if m.r.IntN(60) == 0 {
		return 31 + m.r.IntN(4)
	}
	return least + m.r.IntN(3)
}

func (m *maker) enum() {
	m.one("enum")
	m.name()
	m.one("{")
	m.times(m.few(1), m.name)
	m.one("}")
}

func (m *maker) decl() {
	m.one("var")
	m.name()
	m.one(":")
	switch m.r.IntN(3) {
	case 0:
		m.one("bool")
	case 1:
		m.name()
	default:
		m.bound()
		m.one("..")
		m.bound()
	}
	if m.r.IntN(2) == 0 {
		m.one("=")
		m.expr(m.r.IntN(4), true)
	}
	m.one(";")
}

func (m *maker) assign() {
	m.name()
	m.one(":=")
	m.expr(m.r.IntN(4), true)
}

func (m *maker) process() {
	m.one("process")
	m.name()
	m.one("{")
	for range m.few(0) {
		m.one("when")
		m.expr(m.r.IntN(5), true)
		m.one("do")
		m.times(m.few(1), m.assign)
		m.one(";")
	}
	m.one("}")
}

func (m *maker) source() {
	for range m.r.IntN(7) {
		many := 1
		if m.r.IntN(60) == 0 {
			many = 31 + m.r.IntN(4)
		}
		for range many {
			[]func(){m.enum, m.decl, m.process}[m.r.IntN(3)]()
		}
	}
}

// spoil changes a word, or takes it out, or puts one in.
func (m *maker) spoil() {
	i := m.r.IntN(len(m.l) + 1)
	m.words("( ) { } , ; : := .. = < + - ! & -> <-> U G a 7 true bool enum var process when do")
	w := m.l[len(m.l)-1]
	m.l = m.l[:len(m.l)-1]
	switch k := m.r.IntN(3); {
	case k == 0 || i == len(m.l):
		m.l = slices.Insert(m.l, i, w)
	case k == 1:
		m.l[i] = w
	default:
		m.l = slices.Delete(m.l, i, i+1)
	}
}

// text: the words, with something between where that must be.
func (m *maker) text() string {
	var b strings.Builder
	for i, w := range m.l {
		gap := []string{" ", "\n", "\t", " // no ; word\n", "  "}[max(0, m.r.IntN(12)-7)]
		if i > 0 && m.r.IntN(3) == 0 && apart(m.l[i-1], w) {
			gap = ""
		}
		b.WriteString(gap + w)
	}
	return b.String()
}

// apart: are two words cut from one another without a blank?
func apart(a, b string) bool {
	l, fault := word.Cut(a + b)
	return fault.Code == 0 && len(l) == 3 && l[0].Text == a
}

func sameExpr(t *testing.T, s string) (right bool) {
	t.Helper()
	x, fault := parse.Expr(s)
	want, wantFault := modelExpr(s)
	if !reflect.DeepEqual(x, want) || fault != wantFault {
		t.Fatalf("%q:\n%v %v, not\n%v %v", s, x, fault, want, wantFault)
	}
	return fault.Code == 0
}

func sameSource(t *testing.T, s string) (right bool) {
	t.Helper()
	m, fault := parse.Source(s)
	want, wantFault := modelSource(s)
	if !reflect.DeepEqual(m, want) || fault != wantFault {
		t.Fatalf("%q:\n%v %v, not\n%v %v", s, m, fault, want, wantFault)
	}
	return fault.Code == 0
}

func TestRandomExprs(t *testing.T) {
	for spoilt := range 4 {
		m := &maker{r: rand.New(rand.NewPCG(uint64(spoilt), 15))}
		rights := 0
		for range 6000 {
			m.l = nil
			m.expr(m.r.IntN(14), true)
			for range spoilt {
				m.spoil()
			}
			if sameExpr(t, m.text()) {
				rights++
			}
		}
		if rights < 50 || rights == 6000 {
			t.Error(spoilt, rights)
		}
	}
}

// Expressions of words at random are at times right, too.
func TestRandomWords(t *testing.T) {
	m := &maker{r: rand.New(rand.NewPCG(1, 1515))}
	rights := 0
	for range 30000 {
		m.l = nil
		for range 1 + m.r.IntN(9) {
			m.words("( ) = < + - * ! & | -> <-> U S G X a b 7 true")
		}
		if sameExpr(t, m.text()) {
			rights++
		}
	}
	if rights < 300 {
		t.Error(rights)
	}
}

// Deep ones, about the limit: brackets and signs ahead of values, and levels.
func TestRandomDepths(t *testing.T) {
	m := &maker{r: rand.New(rand.NewPCG(2, 1515))}
	rights := 0
	for range 4000 {
		m.l = nil
		m.deep(40 + m.r.IntN(24))
		if m.r.IntN(5) == 0 {
			m.spoil()
		}
		if sameExpr(t, m.text()) {
			rights++
		}
		if m.l = append(append(strings.Fields("var x : 0 .. 1 ="), m.l...), ";"); m.r.IntN(5) == 0 {
			m.spoil()
		}
		sameSource(t, m.text())
	}
	if rights < 500 || rights > 3500 {
		t.Error(rights)
	}
}

// deep adds an expression of about so many brackets and signs within one another.
func (m *maker) deep(n int) {
	switch k := m.r.IntN(10); {
	case n == 0:
		m.name()
	case k < 5:
		m.words("! - G")
		m.atomDeep(n - 1)
	case k < 9:
		m.atomDeep(n)
	default:
		m.expr(1, false)
		m.words("-> U & |")
		m.deep(n)
	}
}

func (m *maker) atomDeep(n int) {
	switch {
	case n == 0:
		m.name()
	case m.r.IntN(2) == 0:
		m.words("! - G")
		m.atomDeep(n - 1)
	default:
		m.one("(")
		m.deep(n - 1)
		m.one(")")
	}
}

func TestRandomSources(t *testing.T) {
	for spoilt := range 3 {
		m := &maker{r: rand.New(rand.NewPCG(uint64(spoilt), 151515))}
		rights := 0
		for range 3000 {
			m.l = nil
			m.source()
			for range spoilt {
				m.spoil()
			}
			if sameSource(t, m.text()) {
				rights++
			}
		}
		if rights < 30 || rights == 3000 {
			t.Error(spoilt, rights)
		}
	}
}

// P15.5: random Exprs and models that layer 14 writes.

func (m *maker) tree(levels int) api.Expr {
	x := api.Expr{Op: 5 + m.r.IntN(26)}
	if levels <= 1 || m.r.IntN(5) == 0 {
		x.Op = 1 + m.r.IntN(3)
	}
	switch {
	case x.Op == api.OpNum:
		x.Num = []int64{0, 7, 1000000}[m.r.IntN(3)]
	case x.Op == api.OpBool:
		x.Num = m.r.Int64N(2)
	case x.Op == api.OpName:
		x.Name = "n" + strconv.Itoa(m.r.IntN(50))
	case x.Op <= api.OpH:
		x.Kids = []api.Expr{m.tree(levels - 1)}
	default:
		short := 1 + m.r.IntN(min(3, levels-1))
		x.Kids = []api.Expr{m.tree(levels - 1), m.tree(short)}
		if m.r.IntN(2) == 0 {
			slices.Reverse(x.Kids)
		}
	}
	return x
}

func (m *maker) model() api.Source {
	named := func() string { m.l = nil; m.name(); return m.l[0] }
	var s api.Source
	for range m.r.IntN(3) {
		e := api.Enum{Name: named()}
		for range 1 + m.r.IntN(32) {
			e.Values = append(e.Values, named())
		}
		s.Enums = append(s.Enums, e)
	}
	for range m.r.IntN(33) {
		v := api.Decl{Name: named(), Type: []string{"", "bool", named()}[m.r.IntN(3)]}
		if v.Type == "" {
			v.Low, v.High = m.r.Int64N(2000001)-1000000, m.r.Int64N(2000001)-1000000
		}
		for range m.r.IntN(2) {
			v.Begins = append(v.Begins, m.tree(3))
		}
		s.Vars = append(s.Vars, v)
	}
	for range m.r.IntN(4) {
		p := api.Process{Name: named()}
		for range m.r.IntN(33) {
			r := api.Rule{When: m.tree(4)}
			for range 1 + m.r.IntN(3) {
				r.Do = append(r.Do, api.Assign{Name: named(), To: m.tree(3)})
			}
			p.Rules = append(p.Rules, r)
		}
		s.Processes = append(s.Processes, p)
	}
	return s
}

func TestWhatIsWrittenIsRead(t *testing.T) {
	m := &maker{r: rand.New(rand.NewPCG(3, 1515))}
	most := 0
	for range 3000 {
		x := m.tree(1 + m.r.IntN(30))
		most = max(most, levels(x))
		s, _ := tree.Expr(x)
		if again, fault := parse.Expr(s); fault != (api.Fault{}) || !tree.Same(x, again) {
			t.Fatal(s, again, fault)
		}
	}
	if most != 30 {
		t.Error(most)
	}
	for range 500 {
		x := m.model()
		s, err := tree.Source(x)
		if again, fault := parse.Source(s); err != 0 || fault != (api.Fault{}) || !tree.SameSource(x, again) {
			t.Fatal(s, err, again, fault)
		}
	}
}
