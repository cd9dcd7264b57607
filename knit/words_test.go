package knit_test

import (
	"math/rand/v2"
	"slices"
	"testing"

	"lariat/api"
	"lariat/gate"
	"lariat/knit"
)

// chance: the same one each time.
func chance(seed int) *rand.Rand {
	return rand.New(rand.NewPCG(uint64(seed), 12))
}

// sink is what clauses go into; it tells what it was given.
type sink struct {
	t       *testing.T
	vars    int // the last variable that it answered
	fetched []int
	left    int // how many variables it still has; below 0 any
	wrong   int // which Add, from 0 on, it answers an error; below 0 none
	adds    int
	kept    [][]api.Lit // the very lists that it was given
	clauses [][]api.Lit
}

func newSink(t *testing.T) *sink {
	return &sink{t: t, left: -1, wrong: -1}
}

func (s *sink) Var() int {
	if s.left == 0 {
		return 0
	}
	s.left--
	s.vars++
	s.fetched = append(s.fetched, s.vars)
	return s.vars
}

func (s *sink) Add(clause ...api.Lit) api.Errno {
	s.adds++
	if s.adds-1 == s.wrong {
		return api.ErrSat
	}
	for _, l := range clause {
		if !slices.Contains(s.fetched, int(max(l, -l))) {
			s.t.Error("no variable of the Sink's", l, clause)
		}
	}
	s.clauses = append(s.clauses, slices.Clone(clause))
	s.kept = append(s.kept, clause)
	return api.OK
}

// scribble writes over all lists that were handed to the Sink.
func (s *sink) scribble() {
	for _, clause := range s.kept {
		for i := range clause[:cap(clause)] {
			clause[:cap(clause)][i] = -7777
		}
	}
}

// told is a Knit beside what the words tell of it.
type told struct {
	t      *testing.T
	g      *gate.Graph
	s      *sink
	k      *knit.Knit
	vars   map[int]int // of each gate its VARIABLE
	defs   [][]api.Lit // the Sink's clauses that say what gates are
	inputs []api.Edge
	edges  []api.Edge
}

func begin(t *testing.T, inputs int) *told {
	t.Helper()
	x := &told{t: t, g: gate.New(), s: newSink(t), vars: map[int]int{}, edges: []api.Edge{api.False, api.True}}
	x.k = knit.New(x.g, x.s)
	for range inputs {
		x.input()
	}
	return x
}

func (x *told) input() api.Edge {
	x.t.Helper()
	e, err := x.g.Input()
	if err != api.OK {
		x.t.Fatal("Input", err)
	}
	x.inputs = append(x.inputs, e)
	x.edges = append(x.edges, e, e^1)
	return e
}

func (x *told) and(l ...api.Edge) api.Edge {
	x.t.Helper()
	e, err := x.g.And(l...)
	if err != api.OK {
		x.t.Fatal("And", l, err)
	}
	x.edges = append(x.edges, e, e^1)
	return e
}

// cone: the gates that should have VARIABLES for these Edges.
func (x *told) cone(l ...api.Edge) []int {
	x.t.Helper()
	cone, err := x.g.Cone(l...)
	if err != api.OK {
		x.t.Fatal("Cone", l, err)
	}
	if slices.Contains(l, api.False) || slices.Contains(l, api.True) {
		cone = append(cone, 0)
	}
	return cone
}

// know: behind a call on some Edges, just the gates of their Cone have VARIABLES, beside those that had them.
func (x *told) know(fetched int, l ...api.Edge) {
	x.t.Helper()
	fresh := x.s.fetched[fetched:]
	many := 0
	for _, n := range x.cone(l...) {
		if _, ok := x.vars[n]; ok {
			continue
		}
		v := x.k.Var(n)
		if !slices.Contains(fresh, v) {
			x.t.Fatal("gate", n, "has", v, "and not one of", fresh)
		}
		for m, w := range x.vars {
			if v == w {
				x.t.Fatal("gates", m, n, "have both", v)
			}
		}
		x.vars[n] = v
		many++
	}
	if many != len(fresh) {
		x.t.Fatal("new variables", fresh, "for so many gates", many)
	}
	x.known()
}

// known holds all of Var and Known against what is told of them.
func (x *told) known() {
	x.t.Helper()
	if x.k.Known() != len(x.vars) {
		x.t.Fatal("Known", x.k.Known(), len(x.vars))
	}
	for n := range x.g.Len() + 3 {
		if v := x.k.Var(n); v != x.vars[n] {
			x.t.Fatal("Var", n, v, x.vars[n])
		}
	}
}

// literal is what the words tell of an Edge.
func (x *told) literal(e api.Edge) api.Lit {
	v := api.Lit(x.vars[int(e/2)])
	if e%2 == 1 {
		return -v
	}
	return v
}

func (x *told) lit(e api.Edge) api.Lit {
	x.t.Helper()
	fetched, clauses := len(x.s.fetched), len(x.s.clauses)
	l, err := x.k.Lit(e)
	if err != api.OK {
		x.t.Fatal("Lit", e, err)
	}
	x.know(fetched, e)
	if l != x.literal(e) || l == 0 {
		x.t.Fatal("Lit", e, l, x.literal(e))
	}
	x.defs = append(x.defs, x.s.clauses[clauses:]...)
	return l
}

func (x *told) hold(l ...api.Edge) {
	x.t.Helper()
	room := append(slices.Clone(l), 77, 78)
	was := slices.Clone(room)
	fetched, clauses := len(x.s.fetched), len(x.s.clauses)
	if err := x.k.Hold(room[:len(l)]...); err != api.OK {
		x.t.Fatal("Hold", l, err)
	}
	if !slices.Equal(room, was) {
		x.t.Fatal("Hold changed what was handed in", was, room)
	}
	x.know(fetched, l...)
	fresh := x.s.clauses[clauses:]
	if len(fresh) == 0 {
		x.t.Fatal("Hold added no clause", l)
	}
	want := make([]api.Lit, len(l))
	for i, e := range l {
		want[i] = x.literal(e)
	}
	last := len(fresh) - 1
	if !sameSet(fresh[last], want) {
		x.t.Fatal("Hold", l, fresh[last], want)
	}
	x.defs = append(x.defs, fresh[:last]...)
}

// sameSet: of the same literals, however often.
func sameSet(a, b []api.Lit) bool {
	a, b = slices.Clone(a), slices.Clone(b)
	slices.Sort(a)
	slices.Sort(b)
	return slices.Equal(slices.Compact(a), slices.Compact(b))
}

// gates: those that have a VARIABLE, rising.
func (x *told) gates() []int {
	var gates []int
	for n := range x.vars {
		gates = append(gates, n)
	}
	slices.Sort(gates)
	return gates
}

// means is P12.4: of all values of all VARIABLES, with just those all clauses hold that are what the gates say for the values of the INPUTS among them.
func (x *told) means() {
	x.t.Helper()
	gates := x.gates()
	if len(gates) > 16 {
		x.t.Fatal("too many to go through", len(gates))
	}
	place := map[int]int{} // of each VARIABLE
	for i, n := range gates {
		place[x.vars[n]] = i
	}
	right := x.right(gates)
	yes, no := masks(x.defs, place)
	for values := range 1 << len(gates) {
		holds := true
		for i := range yes {
			holds = holds && (values&yes[i] != 0 || ^values&no[i] != 0)
		}
		if holds != right[values] {
			x.t.Fatalf("gates %v, values %b: all clauses hold: %v", gates, values, holds)
		}
	}
}

// right: the values of these gates' VARIABLES that are what the gates say, for all values of the INPUTS.
func (x *told) right(gates []int) map[int]bool {
	x.t.Helper()
	edges := make([]api.Edge, len(gates))
	for i, n := range gates {
		edges[i] = api.Edge(2 * n)
	}
	right := map[int]bool{}
	for row := range 1 << len(x.inputs) {
		said, err := x.g.Eval(x.row(row), edges...)
		if err != api.OK {
			x.t.Fatal("Eval", err)
		}
		values := 0
		for i, b := range said {
			if b {
				values |= 1 << i
			}
		}
		right[values] = true
	}
	return right
}

func (x *told) row(row int) []bool {
	values := make([]bool, len(x.inputs))
	for i := range values {
		values[i] = row>>i&1 == 1
	}
	return values
}

// masks: of each clause the places of what is true in it, and of what is false.
func masks(clauses [][]api.Lit, place map[int]int) (yes, no []int) {
	for _, clause := range clauses {
		y, n := 0, 0
		for _, l := range clause {
			if l > 0 {
				y |= 1 << place[int(l)]
			} else {
				n |= 1 << place[int(-l)]
			}
		}
		yes, no = append(yes, y), append(no, n)
	}
	return yes, no
}

// any is one of the Edges that there are.
func (x *told) any(c *rand.Rand) api.Edge {
	return x.edges[c.IntN(len(x.edges))]
}

func (x *told) some(c *rand.Rand, many int) []api.Edge {
	l := make([]api.Edge, many)
	for i := range l {
		l[i] = x.any(c)
	}
	return l
}

// do is a call of whichever kind, on the graph or the Knit; what the graph makes on the way is asked for, too.
func (x *told) do(c *rand.Rand) {
	x.t.Helper()
	many := x.g.Len()
	switch c.IntN(8) {
	case 0:
		if len(x.inputs) < 5 {
			x.input()
		}
	case 1, 2:
		if many < 13 {
			x.and(x.any(c), x.any(c))
		}
	case 3:
		if many < 11 {
			e, err := x.g.If(x.any(c), x.any(c), x.any(c))
			if err != api.OK {
				x.t.Fatal("If", err)
			}
			x.edges = append(x.edges, e, e^1)
		}
	case 4:
		x.s.Var() // one that is no gate's
	case 5:
		x.hold(x.some(c, c.IntN(4))...)
	default:
		x.lit(x.any(c))
	}
}

// Of all four promises: what is done in any order.
func TestManyOrdersOfCalls(t *testing.T) {
	for seed := range 600 {
		c := chance(seed)
		x := begin(t, seed%4)
		for range 5 + seed%30 {
			x.do(c)
		}
		x.means()
		for _, e := range x.edges {
			x.lit(e)
		}
		x.s.scribble()
		x.known()
		x.means()
		x.values(c)
	}
}

// values: of any values of the Sink's variables, cut off anywhere.
func (x *told) values(c *rand.Rand) {
	x.t.Helper()
	model := make([]bool, x.s.vars+2)
	for i := range model {
		model[i] = c.IntN(2) == 1
	}
	short := model[:c.IntN(len(model)+1)]
	for _, e := range append(slices.Clone(x.edges), api.Edge(2*x.g.Len()), api.Edge(2*x.g.Len()+1)) {
		v := x.vars[int(e/2)]
		want, wantOK := false, false
		if v > 0 && v <= len(short) {
			want, wantOK = short[v-1] != (e%2 == 1), true
		}
		if said, ok := x.k.Value(short, e); said != want || ok != wantOK {
			x.t.Fatal("Value", e, len(short), v, said, ok)
		}
	}
}

// P2: two Knits of which the same was asked answer the same, whatever a third one was asked between.
func TestTheSameAskedOfTwo(t *testing.T) {
	for seed := range 30 {
		x, y, other := begin(t, 2), begin(t, 2), begin(t, 3)
		c, d, e := chance(seed), chance(seed), chance(seed+1000)
		for range 40 {
			x.do(c)
			other.do(e)
			y.do(d)
		}
		if !slices.EqualFunc(x.s.clauses, y.s.clauses, slices.Equal[[]api.Lit]) || !slices.Equal(x.gates(), y.gates()) {
			t.Fatal(seed, x.s.clauses, y.s.clauses)
		}
		for _, n := range x.gates() {
			if x.vars[n] != y.vars[n] {
				t.Fatal(seed, n, x.vars[n], y.vars[n])
			}
		}
	}
}
