package gate_test

import (
	"math/rand/v2"
	"slices"
	"testing"

	"lariat/api"
	"lariat/gate"
)

// table is what an Edge says for each of up to 64 rows of values: in the row r the INPUT i is the bit i of r.
type table uint64

// told is a graph beside what the words tell of it: of each Edge that was answered its table.
type told struct {
	t      *testing.T
	g      *gate.Graph
	inputs []api.Edge
	edges  []api.Edge
	tables map[api.Edge]table
}

const rows = 64

func begin(t *testing.T, inputs int) *told {
	t.Helper()
	x := &told{t: t, g: gate.New(), tables: map[api.Edge]table{}}
	x.know(api.False, 0)
	x.know(api.True, ^table(0))
	for range inputs {
		x.input()
	}
	return x
}

// know: an Edge was answered, which should say this; and what was told of it ahead of this must be the same.
func (x *told) know(e api.Edge, want table) {
	x.t.Helper()
	if was, ok := x.tables[e]; ok {
		if was != want {
			x.t.Fatal("edge", e, "says", was, "but should say", want)
		}
		return
	}
	x.edges = append(x.edges, e)
	x.tables[e] = want
}

func (x *told) input() api.Edge {
	x.t.Helper()
	many := x.g.Len()
	e, err := x.g.Input()
	if e != api.Edge(2*many) || err != api.OK || x.g.Len() != many+1 {
		x.t.Fatal("Input", e, err, many, x.g.Len())
	}
	var says table
	for r := range rows {
		says |= table(r>>len(x.inputs)&1) << r
	}
	x.inputs = append(x.inputs, e)
	x.know(e, says)
	x.know(e+1, ^says)
	return e
}

// is holds one answer against a table, and asks once more: the same, and no gate more.
func (x *told) is(name string, want table, ask func() (api.Edge, api.Errno)) api.Edge {
	x.t.Helper()
	e, err := ask()
	if err != api.OK {
		x.t.Fatal(name, err)
	}
	x.know(e, want)
	many := x.g.Len()
	if again, err := ask(); again != e || err != api.OK || x.g.Len() != many {
		x.t.Fatal(name, "again", e, again, err, many, x.g.Len())
	}
	return e
}

func (x *told) not(a api.Edge) api.Edge {
	x.t.Helper()
	many := x.g.Len()
	e := x.is("Not", ^x.tables[a], func() (api.Edge, api.Errno) { return x.g.Not(a) })
	if x.g.Len() != many || e/2 != a/2 || e == a {
		x.t.Fatal("Not", a, e, many, x.g.Len())
	}
	return e
}

func (x *told) and(l ...api.Edge) api.Edge {
	x.t.Helper()
	want := ^table(0)
	for _, e := range l {
		want &= x.tables[e]
	}
	many := x.g.Len()
	e := x.is("And", want, func() (api.Edge, api.Errno) { return x.g.And(l...) })
	if x.g.Len() > many+max(len(l)-1, 0) {
		x.t.Fatal("And", l, many, x.g.Len())
	}
	return e
}

func (x *told) or(l ...api.Edge) api.Edge {
	x.t.Helper()
	var want table
	for _, e := range l {
		want |= x.tables[e]
	}
	return x.is("Or", want, func() (api.Edge, api.Errno) { return x.g.Or(l...) })
}

func (x *told) same(a, b api.Edge) api.Edge {
	x.t.Helper()
	want := ^(x.tables[a] ^ x.tables[b])
	return x.is("Same", want, func() (api.Edge, api.Errno) { return x.g.Same(a, b) })
}

func (x *told) choose(c, a, b api.Edge) api.Edge {
	x.t.Helper()
	y := x.tables[c]
	want := y&x.tables[a] | ^y&x.tables[b]
	return x.is("If", want, func() (api.Edge, api.Errno) { return x.g.If(c, a, b) })
}

// row is the values of the INPUTS in a row.
func (x *told) row(r int) []bool {
	values := make([]bool, len(x.inputs))
	for i := range values {
		values[i] = r>>i&1 == 1
	}
	return values
}

// all holds the whole graph against what is told of it.
func (x *told) all() {
	x.t.Helper()
	if !slices.Equal(x.g.Inputs(), x.inputs) {
		x.t.Fatal("Inputs", x.g.Inputs(), x.inputs)
	}
	for r := range 1 << min(len(x.inputs), 6) {
		said, err := x.g.Eval(x.row(r), x.edges...)
		if err != api.OK || len(said) != len(x.edges) {
			x.t.Fatal("Eval", said, err)
		}
		for i, e := range x.edges {
			if said[i] != (x.tables[e]>>r&1 == 1) {
				x.t.Fatal("Eval of", e, "in row", r, said[i])
			}
		}
	}
	x.parts()
	x.cones()
}

// parts looks at what each gate is: the gate 0, an INPUT, or an AND of two others ahead of it, unlike, the lesser one first, and not made twice.
func (x *told) parts() {
	x.t.Helper()
	made := map[[2]api.Edge]int{}
	for n := range x.g.Len() {
		a, b, ok := x.g.Parts(n)
		if n == 0 || slices.Contains(x.inputs, api.Edge(2*n)) {
			if ok || a != api.False || b != api.False {
				x.t.Fatal("Parts", n, a, b, ok)
			}
			continue
		}
		if !ok || a/2 == 0 || a/2 >= b/2 || int(b/2) >= n {
			x.t.Fatal("Parts", n, a, b, ok)
		}
		if first, twice := made[[2]api.Edge{a, b}]; twice {
			x.t.Fatal("made twice", first, n)
		}
		made[[2]api.Edge{a, b}] = n
		many, yes := x.g.Len(), api.Edge(2*n)
		if e, err := x.g.And(b, a); e != yes || err != api.OK || x.g.Len() != many {
			x.t.Fatal("And", b, a, e, err)
		}
		both := x.say(a) & x.say(b)
		if said, ok := x.tables[yes]; ok && said != both {
			x.t.Fatal("Parts", n, a, b)
		}
		if said, ok := x.tables[yes+1]; ok && said != ^both {
			x.t.Fatal("Parts", n, a, b)
		}
	}
}

// say works out from the Parts alone what an Edge says.
func (x *told) say(e api.Edge) table {
	if says, ok := x.tables[e]; ok {
		return says
	}
	a, b, _ := x.g.Parts(int(e / 2))
	says := x.say(a) & x.say(b)
	if e%2 == 1 {
		return ^says
	}
	return says
}

// reach: the gates on which an Edge hangs, by the words.
func reach(g *gate.Graph, e api.Edge, met map[int]bool) {
	n := int(e / 2)
	if n == 0 || met[n] {
		return
	}
	met[n] = true
	if a, b, ok := g.Parts(n); ok {
		reach(g, a, met)
		reach(g, b, met)
	}
}

func wantCone(g *gate.Graph, l ...api.Edge) []int {
	met := map[int]bool{}
	for _, e := range l {
		reach(g, e, met)
	}
	var want []int
	for n := range g.Len() {
		if met[n] {
			want = append(want, n)
		}
	}
	return want
}

func isCone(t *testing.T, g *gate.Graph, l ...api.Edge) {
	t.Helper()
	if got, err := g.Cone(l...); !slices.Equal(got, wantCone(g, l...)) || err != api.OK {
		t.Fatal("Cone", l, got, wantCone(g, l...), err)
	}
}

func (x *told) cones() {
	x.t.Helper()
	for i, e := range x.edges {
		isCone(x.t, x.g, e)
		isCone(x.t, x.g, e, x.edges[i/2], e)
	}
	isCone(x.t, x.g, x.edges...)
}

// chance: the same one each time.
func chance(seed int) *rand.Rand {
	return rand.New(rand.NewPCG(uint64(seed), 10))
}

// any is one of the Edges that were answered.
func (x *told) any(c *rand.Rand) api.Edge {
	return x.edges[c.IntN(len(x.edges))]
}

func (x *told) some(c *rand.Rand, many int) []api.Edge {
	l := make([]api.Edge, many)
	for i := range l {
		l[i] = x.any(c)
	}
	return l
}

// do is a call of whichever kind.
func (x *told) do(c *rand.Rand) {
	x.t.Helper()
	switch c.IntN(8) {
	case 0:
		if len(x.inputs) < 6 {
			x.input()
		}
	case 1:
		x.not(x.any(c))
	case 2:
		x.and(x.any(c), x.any(c))
	case 3:
		x.and(x.some(c, c.IntN(6))...)
	case 4:
		x.or(x.some(c, c.IntN(6))...)
	case 5:
		x.same(x.any(c), x.any(c))
	default:
		x.choose(x.any(c), x.any(c), x.any(c))
	}
}

// Of all four promises: what is done in any order.
func TestManyOrdersOfCalls(t *testing.T) {
	for seed := range 400 {
		c := chance(seed)
		x := begin(t, seed%4)
		for range 10 + seed%40 {
			x.do(c)
		}
		x.all()
	}
}

// Each call, with all Edges of a small graph at all of its places.
func TestAllCallsOnASmallGraph(t *testing.T) {
	x := begin(t, 3)
	a, b := x.inputs[0], x.inputs[1]
	x.not(x.and(a, b))
	edges := slices.Clone(x.edges)
	for _, p := range edges {
		x.not(p)
		x.and(p)
		x.or(p)
		for _, q := range edges {
			x.and(p, q)
			x.or(p, q)
			x.same(p, q)
			for _, r := range edges {
				x.and(p, q, r)
				x.or(p, q, r)
				x.choose(p, q, r)
			}
		}
	}
	x.all()
}

// P2: two graphs of which the same was asked are the same, whatever a third one was asked between.
func TestTheSameAskedOfTwoGraphs(t *testing.T) {
	for seed := range 20 {
		x, y, other := begin(t, 2), begin(t, 2), begin(t, 5)
		c, d, e := chance(seed), chance(seed), chance(seed+1000)
		for range 60 {
			x.do(c)
			other.do(e)
			y.do(d)
		}
		if !slices.Equal(x.edges, y.edges) || x.g.Len() != y.g.Len() {
			t.Fatal(seed, x.edges, y.edges)
		}
		x.all()
		y.all()
		other.all()
	}
}
