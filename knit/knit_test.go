package knit_test

import (
	"math"
	"slices"
	"testing"

	"lariat/api"
	"lariat/gate"
	"lariat/knit"
	"lariat/sat"
	"lariat/vec"
)

// P12.1

func TestNew(t *testing.T) {
	x := begin(t, 3)
	x.and(x.inputs...)
	x.known()
	if len(x.s.fetched) != 0 || x.s.adds != 0 {
		t.Error("New asked something of the Sink", x.s.fetched, x.s.adds)
	}
	for _, e := range x.edges {
		if said, ok := x.k.Value([]bool{true, true, true}, e); said || ok {
			t.Error("Value", e, said, ok)
		}
	}
}

func TestLitOfAnAndOfTwoInputs(t *testing.T) {
	x := begin(t, 2)
	x.lit(x.and(x.inputs...))
	if x.k.Known() != 3 || x.s.vars != 3 || len(x.s.clauses) != 3 {
		t.Error(x.k.Known(), x.s.vars, x.s.clauses)
	}
	x.means()
}

func TestLitOfAnInput(t *testing.T) {
	x := begin(t, 3)
	x.lit(x.inputs[1] ^ 1)
	if x.k.Known() != 1 || len(x.s.clauses) != 0 {
		t.Error(x.k.Known(), x.s.clauses)
	}
	x.means()
}

func TestLitOfTheGate0(t *testing.T) {
	for _, first := range []api.Edge{api.False, api.True} {
		x := begin(t, 1)
		if l := x.lit(first); l < 0 != (first == api.True) {
			t.Error(first, l)
		}
		v := api.Lit(x.k.Var(0))
		if len(x.s.clauses) != 1 || !slices.Equal(x.s.clauses[0], []api.Lit{-v}) {
			t.Error(first, v, x.s.clauses)
		}
		x.lit(first ^ 1)
		if x.k.Known() != 1 || len(x.s.clauses) != 1 {
			t.Error(x.k.Known(), x.s.clauses)
		}
		x.means()
	}
}

// No Cone has the gate 0 in it.
func TestTheGate0HasAVariableOnlyIfItIsAsked(t *testing.T) {
	x := begin(t, 2)
	x.lit(x.and(x.inputs[0]^1, x.inputs[1]))
	if x.k.Var(0) != 0 {
		t.Error(x.k.Var(0))
	}
	x.lit(api.True)
	x.means()
}

func TestLitOfEachAndOfTwo(t *testing.T) {
	for signs := range 8 {
		x := begin(t, 2)
		a, b := x.inputs[0]^api.Edge(signs&1), x.inputs[1]^api.Edge(signs>>1&1)
		x.lit(x.and(a, b) ^ api.Edge(signs>>2))
		if len(x.s.clauses) != 3 {
			t.Error(signs, x.s.clauses)
		}
		x.means()
	}
}

func TestLitAgainAndOfTheOtherSign(t *testing.T) {
	x := begin(t, 2)
	ab := x.and(x.inputs...)
	l := x.lit(ab)
	for range 3 {
		if x.lit(ab) != l || x.lit(ab^1) != -l || x.lit(x.inputs[0]^1) != -x.lit(x.inputs[0]) {
			t.Error(l)
		}
	}
	if len(x.s.clauses) != 3 || x.s.vars != 3 {
		t.Error(x.s.clauses, x.s.vars)
	}
}

// What has a VARIABLE is not told once more, in whichever order gates are asked for, and what is no part of a Cone isn't told at all.
func TestLitOfWhatIsPartlyKnown(t *testing.T) {
	x := begin(t, 4)
	in := x.inputs
	ab := x.and(in[0], in[1])
	bc := x.and(in[1]^1, in[2])
	both := x.and(ab^1, bc^1)
	top := x.and(both, in[3])
	x.lit(bc)
	if x.k.Known() != 3 || x.k.Var(int(ab/2)) != 0 || x.k.Var(int(in[0]/2)) != 0 {
		t.Error(x.k.Known())
	}
	x.lit(top)
	if x.k.Known() != 8 || len(x.s.clauses) != 4*3 {
		t.Error(x.k.Known(), x.s.clauses)
	}
	x.means()
	x.lit(both)
	x.lit(ab)
	if x.k.Known() != 8 || len(x.s.clauses) != 4*3 {
		t.Error(x.k.Known(), x.s.clauses)
	}
}

func TestAGraphThatGrows(t *testing.T) {
	x := begin(t, 0)
	for i := range 4 {
		e := x.input()
		if i > 0 {
			e = x.and(x.edges[len(x.edges)-4], e^1)
		}
		x.lit(e ^ 1)
		if x.k.Known() != x.g.Len()-1 {
			t.Error(x.k.Known(), x.g.Len())
		}
	}
	x.means()
}

// So deep that no call could be within the other for each gate; and each time just the gate more is told.
func TestADeepGraph(t *testing.T) {
	g, counted := gate.New(), &count{}
	k := knit.New(g, counted)
	last, _ := g.Input()
	const deep = 200000
	for i := range deep {
		e, _ := g.Input()
		both, err := g.And(last^1, e)
		if err != api.OK {
			t.Fatal(err)
		}
		last = both
		if i > deep/2 && i%2 == 0 {
			if _, err := k.Lit(last ^ 1); err != api.OK {
				t.Fatal(i, err)
			}
		}
	}
	if l, err := k.Lit(last); l <= 0 || err != api.OK {
		t.Error(l, err)
	}
	if k.Known() != 2*deep+1 || counted.vars != 2*deep+1 || counted.clauses != 3*deep {
		t.Error(k.Known(), counted)
	}
}

// count is a Sink that only counts.
type count struct{ vars, clauses int }

func (c *count) Var() int {
	c.vars++
	return c.vars
}

func (c *count) Add(clause ...api.Lit) api.Errno {
	c.clauses++
	return api.OK
}

// The Sink's variables begin anywhere, and others take some between.
func TestASinkOfTwoKnits(t *testing.T) {
	x := begin(t, 2)
	x.s.Var()
	x.s.Var()
	x.lit(x.inputs[1])
	other := knit.New(x.g, x.s)
	l, err := other.Lit(x.inputs[1])
	if l != 4 || err != api.OK || other.Known() != 1 || x.k.Known() != 1 {
		t.Error(l, err, other.Known(), x.k.Known())
	}
	x.lit(x.and(x.inputs...))
	if x.s.vars != 6 || other.Known() != 1 || other.Var(1) != 0 {
		t.Error(x.s.vars, other.Known(), other.Var(1))
	}
	x.means()
}

// P12.2

func TestHold(t *testing.T) {
	x := begin(t, 3)
	ab := x.and(x.inputs[0], x.inputs[1])
	x.hold(ab, x.inputs[2]^1)
	if x.k.Known() != 4 || len(x.s.clauses) != 4 {
		t.Error(x.k.Known(), x.s.clauses)
	}
	x.hold(ab^1, x.inputs[2]^1, x.inputs[0])
	if x.k.Known() != 4 || len(x.s.clauses) != 5 {
		t.Error(x.k.Known(), x.s.clauses)
	}
	x.means()
}

func TestHoldOfOneOfNoneAndOfTheGate0(t *testing.T) {
	x := begin(t, 1)
	x.hold(x.inputs[0])
	x.hold(x.inputs[0] ^ 1)
	if len(x.s.clauses) != 2 {
		t.Error(x.s.clauses)
	}
	x.hold()
	if len(x.s.clauses) != 3 || len(x.s.clauses[2]) != 0 || x.k.Known() != 1 {
		t.Error(x.s.clauses, x.k.Known())
	}
	x.hold(api.True, x.inputs[0])
	if len(x.s.clauses) != 5 || x.k.Known() != 2 {
		t.Error(x.s.clauses, x.k.Known())
	}
	x.hold(api.False)
	x.hold(api.True, api.False)
	x.means()
}

func TestHoldOfOneTwiceAndOfBothSigns(t *testing.T) {
	x := begin(t, 2)
	ab := x.and(x.inputs...)
	x.hold(ab, ab, ab)
	x.hold(ab, ab^1)
	x.hold(ab^1, x.inputs[1], ab^1)
	if x.k.Known() != 3 {
		t.Error(x.k.Known())
	}
	x.means()
}

func TestHoldOfMany(t *testing.T) {
	x := begin(t, 5)
	in := x.inputs
	var l []api.Edge
	for i := range in {
		l = append(l, x.and(in[i]^1, in[(i+1)%5])^api.Edge(i%2), in[i])
	}
	x.hold(l...)
	x.means()
}

func TestVarOfNoGate(t *testing.T) {
	x := begin(t, 2)
	x.lit(x.and(x.inputs...))
	x.lit(api.True)
	for _, n := range []int{-1, -2, x.g.Len(), x.g.Len() + 1, math.MaxInt, math.MinInt, 1 << 32, 1<<32 + 1, -1 << 32, math.MaxUint32} {
		if v := x.k.Var(n); v != 0 {
			t.Error(n, v)
		}
	}
}

// P12.3

func TestValue(t *testing.T) {
	x := begin(t, 2)
	x.s.Var()
	a, b := x.inputs[0], x.inputs[1]
	x.lit(b ^ 1)
	v := x.k.Var(int(b / 2))
	if v != 2 {
		t.Fatal(v)
	}
	for _, c := range []struct {
		model    []bool
		e        api.Edge
		said, ok bool
	}{
		{[]bool{false, true}, b, true, true},
		{[]bool{false, true}, b ^ 1, false, true},
		{[]bool{true, false}, b, false, true},
		{[]bool{true, false}, b ^ 1, true, true},
		{[]bool{true, false, true, true}, b, false, true},
		{[]bool{true}, b, false, false},
		{[]bool{true}, b ^ 1, false, false},
		{[]bool{true, true}[:1], b, false, false},
		{nil, b ^ 1, false, false},
		{[]bool{}, b, false, false},
		{[]bool{true, true, true}, a, false, false},
		{[]bool{true, true, true}, a ^ 1, false, false},
		{[]bool{true, true, true}, api.False, false, false},
		{[]bool{true, true, true}, api.True, false, false},
		{[]bool{true, true, true}, 6, false, false},
		{[]bool{true, true, true}, 7, false, false},
		{[]bool{true, true, true}, math.MaxUint32, false, false},
	} {
		if said, ok := x.k.Value(c.model, c.e); said != c.said || ok != c.ok {
			t.Error(c, said, ok)
		}
	}
	x.lit(api.False)
	if said, ok := x.k.Value([]bool{true, true, false}, api.True); !said || !ok {
		t.Error(said, ok)
	}
	if said, ok := x.k.Value([]bool{true, true, false}, api.False); said || !ok {
		t.Error(said, ok)
	}
	x.known()
}

// P12.4

// numbers is a circuit of layer 11, too great to go through all values of its VARIABLES.
func numbers(t *testing.T, g *gate.Graph) (in, out []api.Edge) {
	t.Helper()
	a, _ := vec.Input(g, 5)
	b, _ := vec.Input(g, 4)
	product, _ := vec.Times(g, a, b)
	sum, _ := vec.Sub(g, product, a)
	below, _ := vec.Less(g, sum, b)
	chosen, err := vec.Choose(g, below, sum, product)
	if err != api.OK {
		t.Fatal(err)
	}
	out = append(out, below)
	for _, v := range []vec.Vec{product, sum, chosen} {
		out = append(out, v...)
	}
	return g.Inputs(), out
}

func TestByASolver(t *testing.T) {
	g, s := gate.New(), sat.New(api.Options{Seed: 5})
	k := knit.New(g, s)
	in, out := numbers(t, g)
	said := make([]api.Lit, len(out))
	for i, e := range out {
		l, err := k.Lit(e)
		if err != api.OK {
			t.Fatal(e, err)
		}
		said[i] = l
	}
	c := chance(1)
	for range 60 {
		values := make([]bool, len(in))
		assume := make([]api.Lit, len(in))
		for i, e := range in {
			values[i] = c.IntN(2) == 1
			l, err := k.Lit(e)
			if err != api.OK {
				t.Fatal(e, err)
			}
			assume[i] = l
			if !values[i] {
				assume[i] = -l
			}
		}
		want, _ := g.Eval(values, out...)
		if n, err := s.Solve(-1, assume...); n != sat.Yes || err != api.OK {
			t.Fatal(values, n, err)
		}
		model := s.Model()
		for i, e := range out {
			if b, ok := k.Value(model, e); b != want[i] || !ok {
				t.Fatal("Value", values, e, b, ok, want[i])
			}
			wrong := said[i]
			if want[i] {
				wrong = -wrong
			}
			if n, err := s.Solve(-1, append(slices.Clone(assume), wrong)...); n != sat.No || err != api.OK {
				t.Fatal(values, e, n, err)
			}
		}
	}
}

// An equation that has but one answer: 9 times 13 is 117, of two numbers from 2 on, the first one the lesser.
func TestHoldByASolver(t *testing.T) {
	g, s := gate.New(), sat.New(api.Options{})
	k := knit.New(g, s)
	a, _ := vec.Input(g, 6)
	b, _ := vec.Input(g, 6)
	product, _ := vec.Times(g, a, b)
	want, _ := vec.Const(117)
	five, _ := vec.Const(5)
	same, _ := vec.Equal(g, product, want)
	less, _ := vec.Less(g, a, b)
	great, err := vec.Less(g, five, a)
	if err != api.OK {
		t.Fatal(err)
	}
	for _, e := range []api.Edge{same, less, great} {
		if err := k.Hold(e); err != api.OK {
			t.Fatal(err)
		}
	}
	if n, err := s.Solve(-1); n != sat.Yes || err != api.OK {
		t.Fatal(n, err)
	}
	model := s.Model()
	values := make([]bool, 0, 12)
	for _, e := range g.Inputs() {
		bit, ok := k.Value(model, e)
		if !ok {
			t.Fatal(e)
		}
		values = append(values, bit)
	}
	x, _ := vec.Number(g, values, a)
	y, _ := vec.Number(g, values, b)
	if x != 9 || y != 13 {
		t.Error(x, y)
	}
	if err := k.Hold(a[1], same^1); err != api.OK { // 9 has no such bit
		t.Fatal(err)
	}
	if n, err := s.Solve(-1); n != sat.No || err != api.OK {
		t.Fatal(n, err)
	}
}
