package gate_test

import (
	"math"
	"slices"
	"testing"

	"lariat/api"
	"lariat/gate"
)

// P10.2

func evals(t *testing.T, g *gate.Graph, values []bool, l []api.Edge, want ...bool) {
	t.Helper()
	if got, err := g.Eval(values, l...); !slices.Equal(got, want) || err != api.OK {
		t.Error("Eval", values, l, got, want, err)
	}
}

func TestEval(t *testing.T) {
	g := gate.New()
	a, _ := g.Input()
	b, _ := g.Input()
	ab, _ := g.And(a, b)
	no, _ := g.And(a^1, b)
	c, _ := g.Input()
	abc, _ := g.And(c, ab^1)
	l := []api.Edge{a, b, ab, no, c, abc, abc ^ 1, api.False, api.True, a ^ 1}
	for n := range 8 {
		x, y, z := n&1 > 0, n&2 > 0, n&4 > 0
		third := z && !(x && y)
		evals(t, g, []bool{x, y, z}, l, x, y, x && y, !x && y, z, third, !third, false, true, !x)
	}
}

func TestEvalOfTooFewOrTooManyValues(t *testing.T) {
	g := gate.New()
	var l []api.Edge
	for range 4 {
		e, _ := g.Input()
		l = append(l, e)
	}
	or, _ := g.Or(l...)
	ask := append(l, or, l[3]^1)
	evals(t, g, nil, ask, false, false, false, false, false, true)
	evals(t, g, []bool{}, ask, false, false, false, false, false, true)
	evals(t, g, []bool{false, true}, ask, false, true, false, false, true, true)
	evals(t, g, []bool{false, false, false, true}, ask, false, false, false, true, true, false)
	evals(t, g, []bool{false, false, true, false, true, true, true}, ask, false, false, true, false, true, true)
	evals(t, g, slices.Repeat([]bool{true}, 100), ask, true, true, true, true, true, false)
	// What lies behind a list's end is no value of it.
	values := []bool{false, false, true, true}
	evals(t, g, values[:2], ask, false, false, false, false, false, true)
}

func TestEvalOfNoneAndOfOneTwice(t *testing.T) {
	x := begin(t, 2)
	ab := x.and(x.inputs...)
	evals(t, x.g, []bool{true, true}, nil)
	evals(t, x.g, nil, []api.Edge{})
	evals(t, x.g, []bool{true, true}, []api.Edge{ab, ab, ab ^ 1, ab}, true, true, false, true)
	evals(t, x.g, []bool{true}, []api.Edge{ab ^ 1, ab, ab ^ 1}, true, false, true)
}

// INPUTS between ANDs, so that a gate's number doesn't tell which INPUT it is.
func TestEvalOfInputsByTheirOrder(t *testing.T) {
	x := begin(t, 1)
	for i := range 5 {
		x.and(x.inputs[i], x.not(x.and(x.inputs[0], x.inputs[i])))
		x.choose(x.inputs[i], x.inputs[0], x.inputs[i/2]^1)
		x.input()
	}
	for i := range x.inputs {
		values := make([]bool, len(x.inputs))
		values[i] = true
		said, err := x.g.Eval(values, x.inputs...)
		if !slices.Equal(said, values) || err != api.OK {
			t.Error(i, said, err)
		}
	}
	x.all()
}

func TestEvalChangesNothing(t *testing.T) {
	x := begin(t, 2)
	ab := x.and(x.inputs...)
	many := x.g.Len()
	for range 3 {
		evals(t, x.g, []bool{true, true}, []api.Edge{ab}, true)
		evals(t, x.g, []bool{false, true}, []api.Edge{ab}, false)
		evals(t, x.g, nil, []api.Edge{ab}, false)
	}
	if x.g.Len() != many || len(x.g.Inputs()) != 2 {
		t.Error(x.g.Len(), many)
	}
}

// P10.4

func TestParts(t *testing.T) {
	g := gate.New()
	a, _ := g.Input()
	b, _ := g.Input()
	for _, c := range []struct{ a, b, first, second api.Edge }{
		{a, b, a, b},
		{b, a ^ 1, a ^ 1, b},
		{b ^ 1, a ^ 1, a ^ 1, b ^ 1},
		{7, a, a, 7},
		{a ^ 1, 8, a ^ 1, 8},
	} {
		e, err := g.And(c.a, c.b)
		if err != api.OK || e%2 == 1 {
			t.Fatal(c, e, err)
		}
		if x, y, ok := g.Parts(int(e / 2)); x != c.first || y != c.second || !ok {
			t.Error(c, x, y, ok)
		}
	}
}

func TestPartsOfWhatIsNoAnd(t *testing.T) {
	x := begin(t, 2)
	x.and(x.inputs...)
	x.input()
	many := x.g.Len()
	for _, n := range []int{
		0, 1, 2, 4, many, many + 1, -1, -2, -3, 2*many + 1, api.MaxGates - 1, api.MaxGates, api.MaxGates + 3,
		1<<31 + 3, 1<<32 + 3, 1<<33 + 3, math.MaxInt32, math.MinInt32, math.MaxInt, math.MinInt, math.MinInt + 3,
	} {
		if a, b, ok := x.g.Parts(n); a != api.False || b != api.False || ok {
			t.Error(n, a, b, ok)
		}
	}
	if a, b, ok := x.g.Parts(3); a != 2 || b != 4 || !ok {
		t.Error(a, b, ok)
	}
}

func TestCone(t *testing.T) {
	g := gate.New()
	var in []api.Edge
	for range 4 {
		e, _ := g.Input()
		in = append(in, e)
	}
	ab, _ := g.And(in[0], in[1])     // 5
	bc, _ := g.And(in[1], in[2]^1)   // 6
	abbc, _ := g.And(bc^1, ab)       // 7
	late, _ := g.Input()             // 8
	top, _ := g.And(late, abbc^1)    // 9
	other, _ := g.And(in[3], late^1) // 10
	for _, c := range []struct {
		l    []api.Edge
		want []int
	}{
		{nil, nil},
		{[]api.Edge{api.False}, nil},
		{[]api.Edge{api.True, api.False, api.True}, nil},
		{[]api.Edge{in[2]}, []int{3}},
		{[]api.Edge{in[2] ^ 1, in[0], in[2]}, []int{1, 3}},
		{[]api.Edge{ab}, []int{1, 2, 5}},
		{[]api.Edge{ab ^ 1, api.True}, []int{1, 2, 5}},
		{[]api.Edge{bc, ab}, []int{1, 2, 3, 5, 6}},
		{[]api.Edge{abbc}, []int{1, 2, 3, 5, 6, 7}},
		{[]api.Edge{top ^ 1}, []int{1, 2, 3, 5, 6, 7, 8, 9}},
		{[]api.Edge{other, ab, other ^ 1}, []int{1, 2, 4, 5, 8, 10}},
		{[]api.Edge{top, other}, []int{1, 2, 3, 4, 5, 6, 7, 8, 9, 10}},
	} {
		if got, err := g.Cone(c.l...); !slices.Equal(got, c.want) || err != api.OK {
			t.Error(c.l, got, c.want, err)
		}
	}
}

// As often as each gate is met by two of the next one, as many ways there are, but each gate is told once.
func TestConeOfManyWays(t *testing.T) {
	x := begin(t, 2)
	a, b := x.inputs[0], x.inputs[1]
	for range 100 {
		e, _ := x.g.And(a, b)
		f, _ := x.g.And(a^1, e^1)
		a, b = e, f
	}
	want := make([]int, x.g.Len()-1)
	for i := range want {
		want[i] = i + 1
	}
	if got, err := x.g.Cone(b, a); !slices.Equal(got, want) || err != api.OK {
		t.Error(got, err)
	}
	if said, err := x.g.Eval([]bool{true, true}, b, b^1); len(said) != 2 || said[0] == said[1] || err != api.OK {
		t.Error(said, err)
	}
}

func TestAnswersAreNewMemory(t *testing.T) {
	x := begin(t, 2)
	ab := x.and(x.inputs...)
	cone, _ := x.g.Cone(ab)
	said, _ := x.g.Eval([]bool{true, true}, ab, x.inputs[0])
	for i := range cone[:cap(cone)] {
		cone[:cap(cone)][i] = -7
	}
	clear(said[:cap(said)])
	if again, err := x.g.Cone(ab); !slices.Equal(again, []int{1, 2, 3}) || err != api.OK {
		t.Error(again, err)
	}
	evals(t, x.g, []bool{true, true}, []api.Edge{ab, x.inputs[0]}, true, true)
	x.all()
}
