package gate_test

import (
	"math"
	"slices"
	"testing"

	"lariat/api"
	"lariat/gate"
)

// Errors

// refused looks whether a call was refused, and made no gate.
func refused(t *testing.T, g *gate.Graph, name string, ask func() (api.Edge, api.Errno)) {
	t.Helper()
	many, inputs := g.Len(), g.Inputs()
	if e, err := ask(); e != api.False || err != api.ErrGate {
		t.Error(name, e, err)
	}
	if g.Len() != many || !slices.Equal(g.Inputs(), inputs) {
		t.Error(name, "made gates", many, g.Len())
	}
}

// noEdges is what is no Edge of one of so many gates.
func noEdges(many int) []api.Edge {
	next := api.Edge(2 * many)
	return []api.Edge{
		next, next + 1, next + 2, 4 * api.Edge(many), 2*api.MaxGates - 1, 2 * api.MaxGates, 2*api.MaxGates + 3,
		1 << 31, 1<<31 + 3, math.MaxUint32 - 1, math.MaxUint32,
	}
}

func TestEdgesOfNoGate(t *testing.T) {
	x := begin(t, 3)
	x.and(x.inputs[0], x.inputs[1])
	a, b, g := x.inputs[0], x.inputs[2], x.g
	right := []api.Edge{api.False, api.True, a, b, a ^ 1, 8}
	for _, wrong := range noEdges(g.Len()) {
		refused(t, g, "Not", func() (api.Edge, api.Errno) { return g.Not(wrong) })
		refused(t, g, "Same", func() (api.Edge, api.Errno) { return g.Same(wrong, wrong) })
		refused(t, g, "If", func() (api.Edge, api.Errno) { return g.If(wrong, wrong, wrong) })
		for _, p := range right {
			for _, q := range right {
				for _, l := range [][]api.Edge{{wrong}, {wrong, wrong}, {wrong, wrong ^ 1}, {p, wrong}, {wrong, p}, {wrong, p, q}, {p, wrong, q}, {p, q, wrong}} {
					refused(t, g, "And", func() (api.Edge, api.Errno) { return g.And(l...) })
					refused(t, g, "Or", func() (api.Edge, api.Errno) { return g.Or(l...) })
					refusedLists(t, g, l)
				}
				refused(t, g, "If", func() (api.Edge, api.Errno) { return g.If(wrong, p, q) })
				refused(t, g, "If", func() (api.Edge, api.Errno) { return g.If(p, wrong, q) })
				refused(t, g, "If", func() (api.Edge, api.Errno) { return g.If(p, q, wrong) })
			}
			refused(t, g, "Same", func() (api.Edge, api.Errno) { return g.Same(p, wrong) })
			refused(t, g, "Same", func() (api.Edge, api.Errno) { return g.Same(wrong, p) })
		}
	}
	x.all()
}

func refusedLists(t *testing.T, g *gate.Graph, l []api.Edge) {
	t.Helper()
	if said, err := g.Eval([]bool{true, true, true}, l...); len(said) != 0 || err != api.ErrGate {
		t.Error("Eval", l, said, err)
	}
	if cone, err := g.Cone(l...); len(cone) != 0 || err != api.ErrGate {
		t.Error("Cone", l, cone, err)
	}
}

// An Edge that was none is one, once its gate is there.
func TestEdgesOfTheNextGate(t *testing.T) {
	g := gate.New()
	for n := range 20 {
		next := api.Edge(2 * (n + 1))
		refused(t, g, "Not", func() (api.Edge, api.Errno) { return g.Not(next) })
		refused(t, g, "Not", func() (api.Edge, api.Errno) { return g.Not(next + 1) })
		refusedLists(t, g, []api.Edge{next})
		g.Input()
		if e, err := g.Not(next); e != next+1 || err != api.OK {
			t.Error(n, e, err)
		}
		evals(t, g, make([]bool, n+1), []api.Edge{next, next + 1}, false, true)
	}
}

// full is a graph of as many gates as there may be, but so many: INPUTS, but for one AND of the first two.
func full(t *testing.T, but int) (*gate.Graph, api.Edge) {
	t.Helper()
	g := gate.New()
	a, _ := g.Input()
	b, _ := g.Input()
	ab, _ := g.And(a, b)
	for g.Len() < api.MaxGates-but {
		if _, err := g.Input(); err != api.OK {
			t.Fatal(g.Len(), err)
		}
	}
	return g, ab
}

func TestNoRoom(t *testing.T) {
	g, ab := full(t, 0)
	a, b, c := api.Edge(2), api.Edge(4), api.Edge(8)
	last := api.Edge(2*api.MaxGates - 2)
	for name, ask := range map[string]func() (api.Edge, api.Errno){
		"Input":       g.Input,
		"And":         func() (api.Edge, api.Errno) { return g.And(a, c) },
		"And of more": func() (api.Edge, api.Errno) { return g.And(a, b, c) },
		"And of last": func() (api.Edge, api.Errno) { return g.And(last, a^1) },
		"Or":          func() (api.Edge, api.Errno) { return g.Or(a, c) },
		"Same":        func() (api.Edge, api.Errno) { return g.Same(a, b) },
		"If":          func() (api.Edge, api.Errno) { return g.If(a, b, c) },
		"If not":      func() (api.Edge, api.Errno) { return g.If(c, a, b) },
	} {
		refused(t, g, name, ask)
	}
	if g.Len() != api.MaxGates || len(g.Inputs()) != api.MaxGates-2 {
		t.Error(g.Len(), len(g.Inputs()))
	}
	for name, c := range map[string]struct {
		ask  func() (api.Edge, api.Errno)
		want api.Edge
	}{
		"And":          {func() (api.Edge, api.Errno) { return g.And(b, a) }, ab},
		"And of one":   {func() (api.Edge, api.Errno) { return g.And(last, api.True, last) }, last},
		"And of False": {func() (api.Edge, api.Errno) { return g.And(last, api.False) }, api.False},
		"And of other": {func() (api.Edge, api.Errno) { return g.And(last, last^1) }, api.False},
		"Or":           {func() (api.Edge, api.Errno) { return g.Or(b^1, a^1) }, ab ^ 1},
		"Or of other":  {func() (api.Edge, api.Errno) { return g.Or(last^1, last) }, api.True},
		"Not":          {func() (api.Edge, api.Errno) { return g.Not(last) }, last ^ 1},
		"Same":         {func() (api.Edge, api.Errno) { return g.Same(c, c) }, api.True},
		"If":           {func() (api.Edge, api.Errno) { return g.If(api.False, a, c) }, c},
	} {
		if e, err := c.ask(); e != c.want || err != api.OK || g.Len() != api.MaxGates {
			t.Error(name, e, err, g.Len())
		}
	}
	evals(t, g, []bool{true, true}, []api.Edge{ab, last, last ^ 1}, true, false, true)
	values := make([]bool, api.MaxGates-2)
	values[api.MaxGates-3] = true
	evals(t, g, values, []api.Edge{ab, last, last ^ 1}, false, true, false)
	if cone, err := g.Cone(last, ab); !slices.Equal(cone, []int{1, 2, 3, api.MaxGates - 1}) || err != api.OK {
		t.Error(cone, err)
	}
}

// With room for some of a call's gates, and not for all of them.
func TestRoomForSome(t *testing.T) {
	for name, ask := range map[string]func(g *gate.Graph) (api.Edge, api.Errno){
		"And":  func(g *gate.Graph) (api.Edge, api.Errno) { return g.And(2, 8, 10, 12) },
		"Or":   func(g *gate.Graph) (api.Edge, api.Errno) { return g.Or(2, 8, 10, 12) },
		"Same": func(g *gate.Graph) (api.Edge, api.Errno) { return g.Same(8, 10) },
		"If":   func(g *gate.Graph) (api.Edge, api.Errno) { return g.If(8, 10, 12) },
	} {
		for but := range 4 {
			g, ab := full(t, but)
			before := g.Len()
			e, err := ask(g)
			if but == 3 {
				if e == api.False || err != api.OK || g.Len() != api.MaxGates {
					t.Error(name, but, e, err, g.Len())
				}
			} else if e != api.False || err != api.ErrGate || g.Len() < before || g.Len() > api.MaxGates {
				t.Error(name, but, e, err, g.Len())
			}
			again, err2 := g.And(2, 4)
			if again != ab || err2 != api.OK {
				t.Error(name, but, again, err2)
			}
			if second, err2 := ask(g); second != e || err2 != err {
				t.Error(name, but, second, err2)
			}
			evals(t, g, []bool{true, true}, []api.Edge{ab, 8}, true, false)
			if g.Len() < api.MaxGates {
				if e, err := g.Input(); e/2 != api.Edge(g.Len()-1) || err != api.OK {
					t.Error(name, but, e, err)
				}
			}
		}
	}
}

// As deep as a graph may be: each AND is of the one ahead of it.
func TestAsDeepAsMayBe(t *testing.T) {
	g := gate.New()
	a, _ := g.Input()
	b, _ := g.Input()
	last, err := g.And(a, b)
	for g.Len() < api.MaxGates && err == api.OK {
		last, err = g.And(last^1, []api.Edge{a, b}[g.Len()%2])
	}
	if err != api.OK || last != 2*api.MaxGates-2 {
		t.Fatal(last, err)
	}
	if e, err := g.And(last^1, a); e != api.False || err != api.ErrGate {
		t.Error(e, err)
	}
	cone, err := g.Cone(last)
	if len(cone) != api.MaxGates-1 || err != api.OK {
		t.Fatal(len(cone), err)
	}
	for i, n := range cone {
		if n != i+1 {
			t.Fatal(i, n)
		}
	}
	for row := range 4 {
		x, y := row&1 > 0, row&2 > 0
		want := x && y
		for n := 4; n < api.MaxGates; n++ {
			want = !want && []bool{x, y}[n%2]
		}
		evals(t, g, []bool{x, y}, []api.Edge{last, last ^ 1}, want, !want)
	}
}
