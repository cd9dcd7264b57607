package gate_test

import (
	"slices"
	"testing"

	"lariat/api"
	"lariat/gate"
)

// P10.1

func TestNew(t *testing.T) {
	g := gate.New()
	if g.Len() != 1 || len(g.Inputs()) != 0 {
		t.Error(g.Len(), g.Inputs())
	}
	if a, b, ok := g.Parts(0); a != api.False || b != api.False || ok {
		t.Error(a, b, ok)
	}
	if said, err := g.Eval(nil, api.False, api.True); !slices.Equal(said, []bool{false, true}) || err != api.OK {
		t.Error(said, err)
	}
	if cone, err := g.Cone(api.False, api.True); len(cone) != 0 || err != api.OK {
		t.Error(cone, err)
	}
	if api.False != 0 || api.True != 1 || api.MaxGates != 1048576 || api.ErrGate != 101 {
		t.Error("constants")
	}
}

func TestInputs(t *testing.T) {
	x := begin(t, 0)
	var want []api.Edge
	for i := range 70 {
		e := x.input()
		want = append(want, e)
		if !slices.Equal(x.g.Inputs(), want) {
			t.Fatal(i, x.g.Inputs(), want)
		}
		// What isn't an INPUT is no one of them.
		x.and(want[0], e)
		if i > 0 && x.g.Len() != 2*i+2 || !slices.Equal(x.g.Inputs(), want) {
			t.Fatal(i, x.g.Len(), x.g.Inputs(), want)
		}
	}
}

func TestInputsIsNewMemory(t *testing.T) {
	g := gate.New()
	for range 5 {
		g.Input()
	}
	l, k := g.Inputs(), g.Inputs()
	whole := l[:cap(l)]
	for i := range whole {
		whole[i] = 99
	}
	want := []api.Edge{2, 4, 6, 8, 10}
	if !slices.Equal(k, want) || !slices.Equal(g.Inputs(), want) {
		t.Error(k, g.Inputs())
	}
	if e, err := g.Input(); e != 12 || err != api.OK || whole[0] != 99 || len(whole) > 5 && whole[5] != 99 {
		t.Error(e, err, whole)
	}
	if !slices.Equal(g.Inputs(), append(want, 12)) {
		t.Error(g.Inputs())
	}
}

func TestGraphsOfTheirOwn(t *testing.T) {
	g, h := gate.New(), gate.New()
	a, _ := g.Input()
	b, _ := g.Input()
	g.And(a, b)
	if h.Len() != 1 || len(h.Inputs()) != 0 {
		t.Error(h.Len(), h.Inputs())
	}
	if e, err := h.And(a, b); e != api.False || err != api.ErrGate {
		t.Error(e, err)
	}
}

// P10.3

func TestTheChaptersExample(t *testing.T) {
	g := gate.New()
	a, _ := g.Input()
	b, _ := g.Input()
	first, err := g.And(a, b)
	if first != 6 || err != api.OK || g.Len() != 4 {
		t.Error(first, err, g.Len())
	}
	for _, l := range [][]api.Edge{{a, b}, {b, a}} {
		if e, err := g.And(l...); e != first || err != api.OK || g.Len() != 4 {
			t.Error(l, e, err, g.Len())
		}
	}
}

func TestNot(t *testing.T) {
	x := begin(t, 2)
	x.and(x.inputs...)
	for e := range api.Edge(2 * x.g.Len()) {
		other, err := x.g.Not(e)
		if other != e^1 || err != api.OK {
			t.Error(e, other, err)
		}
		if back, err := x.g.Not(other); back != e || err != api.OK {
			t.Error(e, back, err)
		}
	}
	if x.g.Len() != 4 {
		t.Error(x.g.Len())
	}
}

func TestAndOfOneOrNone(t *testing.T) {
	x := begin(t, 2)
	x.not(x.and(x.inputs...))
	many := x.g.Len()
	if e := x.and(); e != api.True {
		t.Error(e)
	}
	if e := x.or(); e != api.False {
		t.Error(e)
	}
	for e := range api.Edge(2 * many) {
		if and, or := x.and(e), x.or(e); and != e || or != e {
			t.Error(e, and, or)
		}
	}
	if x.g.Len() != many {
		t.Error(x.g.Len(), many)
	}
}

// Where And makes no gate.
func TestAndOfWhatIsKnown(t *testing.T) {
	x := begin(t, 2)
	x.not(x.and(x.inputs...))
	many := x.g.Len()
	for e := range api.Edge(2 * many) {
		for _, c := range []struct {
			l    []api.Edge
			want api.Edge
		}{
			{[]api.Edge{e, e}, e},
			{[]api.Edge{e, e, e}, e},
			{[]api.Edge{e, api.True}, e},
			{[]api.Edge{api.True, e}, e},
			{[]api.Edge{e, api.True, e, api.True}, e},
			{[]api.Edge{e, api.False}, api.False},
			{[]api.Edge{api.False, e}, api.False},
			{[]api.Edge{e, api.True, api.False}, api.False},
			{[]api.Edge{e, e ^ 1}, api.False},
			{[]api.Edge{e ^ 1, e}, api.False},
			{[]api.Edge{e, api.True, e ^ 1}, api.False},
		} {
			if got := x.and(c.l...); got != c.want || x.g.Len() != many {
				t.Error(c.l, got, c.want, x.g.Len())
			}
		}
		if or := x.or(e, e^1); or != api.True || x.g.Len() != many {
			t.Error("Or", e, or, x.g.Len())
		}
		if or := x.or(e^1, e); or != api.True || x.g.Len() != many {
			t.Error("Or", e, or, x.g.Len())
		}
	}
}

func TestTheSameGateIsNotMadeTwice(t *testing.T) {
	x := begin(t, 3)
	l := []api.Edge{}
	for _, e := range x.inputs {
		l = append(l, e, e^1)
	}
	made := map[[2]api.Edge]api.Edge{}
	for i, a := range l {
		for _, b := range l[:i] {
			if a/2 != b/2 {
				made[[2]api.Edge{a, b}] = x.and(a, b)
			}
		}
	}
	// Twelve pairs of three INPUTS and their others: each a gate, and no two of them the same one.
	if x.g.Len() != 4+12 || len(made) != 12 {
		t.Error(x.g.Len(), len(made))
	}
	met := map[api.Edge]bool{}
	for p, e := range made {
		if met[e] || e%2 == 1 {
			t.Error(p, e)
		}
		met[e] = true
		x.or(p[0]^1, p[1]^1)
		for range 3 {
			if got := x.and(p[1], p[0]); got != e {
				t.Error(p, got, e)
			}
		}
	}
	x.input()
	if x.g.Len() != 4+12+1 {
		t.Error(x.g.Len())
	}
	for p, e := range made {
		if got := x.and(p[0], p[1]); got != e {
			t.Error(p, got, e)
		}
	}
	x.all()
}

// Other ones of the same two are other gates.
func TestTurnedEdgesAreOthers(t *testing.T) {
	x := begin(t, 2)
	a, b := x.inputs[0], x.inputs[1]
	l := []api.Edge{x.and(a, b), x.and(a^1, b), x.and(a, b^1), x.and(a^1, b^1)}
	if !slices.Equal(l, []api.Edge{6, 8, 10, 12}) {
		t.Error(l)
	}
	x.all()
}

func TestAndOfMore(t *testing.T) {
	x := begin(t, 6)
	all := x.and(x.inputs...)
	if x.g.Len() != 7+5 {
		t.Error(x.g.Len())
	}
	if x.and(x.and(x.inputs[:5]...), x.inputs[5]) != all || x.g.Len() != 7+5 {
		t.Error("made otherwise", x.g.Len())
	}
	x.or(x.inputs...)
	x.and(x.inputs[0], x.inputs[1], x.inputs[0]^1)
	x.or(x.inputs[0], x.inputs[1], x.inputs[0]^1)
	x.all()
}

func TestLongLists(t *testing.T) {
	const many = 10000
	g := gate.New()
	var l []api.Edge
	values := make([]bool, many)
	for i := range many {
		e, _ := g.Input()
		l = append(l, e)
		values[i] = true
	}
	all, err := g.And(l...)
	if err != api.OK || g.Len() != 2*many {
		t.Fatal(err, g.Len())
	}
	one, err := g.Or(l...)
	if err != api.OK {
		t.Fatal(err)
	}
	says := func(want ...bool) {
		t.Helper()
		if said, err := g.Eval(values, all, one); !slices.Equal(said, want) || err != api.OK {
			t.Error(said, want, err)
		}
	}
	says(true, true)
	for _, i := range []int{0, 1, many / 2, many - 1} {
		values[i] = false
		says(false, true)
		values[i] = true
	}
	clear(values)
	says(false, false)
	for _, i := range []int{0, 1, many / 2, many - 1} {
		values[i] = true
		says(false, true)
		values[i] = false
	}
	if cone, err := g.Cone(all); len(cone) != 2*many-1 || err != api.OK {
		t.Error(len(cone), err)
	}
}

// Of False and True alone no call makes a gate.
func TestOfFalseAndTrueAlone(t *testing.T) {
	x := begin(t, 0)
	both := []api.Edge{api.False, api.True}
	is := func(name string, got, want api.Edge) {
		t.Helper()
		if got != want || x.g.Len() != 1 {
			t.Error(name, got, want, x.g.Len())
		}
	}
	for n := range 1 << 5 {
		var l []api.Edge
		and, or := api.True, api.False
		for i := range 5 {
			e := both[n>>i&1]
			l = append(l, e)
			and, or = min(and, e), max(or, e)
			is("And", x.and(l...), and)
			is("Or", x.or(l...), or)
		}
	}
	for _, a := range both {
		is("Not", x.not(a), 1-a)
		for _, b := range both {
			is("Same", x.same(a, b), 1-(a^b))
			is("If", x.choose(api.True, a, b), a)
			is("If", x.choose(api.False, a, b), b)
		}
	}
	x.all()
}

func TestSameAndIfOfOneInput(t *testing.T) {
	x := begin(t, 1)
	a := x.inputs[0]
	for _, c := range []struct{ got, want api.Edge }{
		{x.same(a, a), api.True},
		{x.same(a, a^1), api.False},
		{x.same(a, api.True), a},
		{x.same(api.True, a), a},
		{x.same(a, api.False), a ^ 1},
		{x.same(api.False, a), a ^ 1},
		{x.choose(a, api.True, api.False), a},
		{x.choose(a, api.False, api.True), a ^ 1},
		{x.choose(api.True, a, api.False), a},
		{x.choose(api.False, api.True, a), a},
		{x.or(a, a), a},
		{x.or(a, api.False), a},
		{x.or(api.True, a), api.True},
	} {
		if c.got != c.want || x.g.Len() != 2 {
			t.Error(c.got, c.want, x.g.Len())
		}
	}
	x.all()
}

// Asked again, much later and much more having been made between.
func TestAskedAgainLater(t *testing.T) {
	x := begin(t, 4)
	a, b, c, d := x.inputs[0], x.inputs[1], x.inputs[2], x.inputs[3]
	ask := func() []api.Edge {
		return []api.Edge{
			x.and(a, b, c), x.or(a, b, c), x.same(a, b), x.same(a^1, c), x.choose(a, b, c), x.choose(b, c^1, a), x.or(a^1, b), x.not(x.and(a, d)),
		}
	}
	first := ask()
	other := chance(7)
	for range 50 {
		x.do(other)
	}
	x.and(x.or(a, d), x.same(c, d), x.choose(d, a, b))
	many := x.g.Len()
	if again := ask(); !slices.Equal(again, first) || x.g.Len() != many {
		t.Error(first, again, many, x.g.Len())
	}
	x.all()
}

// What is handed in is neither changed nor kept.
func TestListsOfWhoCalls(t *testing.T) {
	x := begin(t, 3)
	was := []api.Edge{x.inputs[2], api.True, x.inputs[0] ^ 1, x.inputs[1], api.False, 99, 98}
	l := slices.Clone(was)
	three := l[:4]
	and, _ := x.g.And(three...)
	or, _ := x.g.Or(three...)
	values := []bool{false, true, true, true, true}
	said, err := x.g.Eval(values[:3], three...)
	cone, _ := x.g.Cone(three...)
	if !slices.Equal(l, was) || !slices.Equal(values, []bool{false, true, true, true, true}) {
		t.Error(l, values)
	}
	if !slices.Equal(said, []bool{true, true, true, true}) || err != api.OK || !slices.Equal(cone, []int{1, 2, 3}) {
		t.Error(said, err, cone)
	}
	clear(l)
	clear(values)
	if again, _ := x.g.And(was[:4]...); again != and {
		t.Error(again, and)
	}
	if again, _ := x.g.Or(was[:4]...); again != or {
		t.Error(again, or)
	}
	x.all()
}
