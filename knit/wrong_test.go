package knit_test

import (
	"math"
	"slices"
	"testing"

	"lariat/api"
	"lariat/gate"
	"lariat/knit"
	"lariat/sat"
)

// Errors

// refused looks whether a call was refused, and asked nothing of the Sink.
func (x *told) refused(name string, ask func() (api.Lit, api.Errno)) {
	x.t.Helper()
	vars, adds := x.s.vars, x.s.adds
	if l, err := ask(); l != 0 || err != api.ErrKnit {
		x.t.Error(name, l, err)
	}
	if x.s.vars != vars || x.s.adds != adds {
		x.t.Error(name, "asked something of the Sink", vars, x.s.vars, adds, x.s.adds)
	}
	x.known()
}

func (x *told) refusedLit(e api.Edge) {
	x.t.Helper()
	x.refused("Lit", func() (api.Lit, api.Errno) { return x.k.Lit(e) })
}

func (x *told) refusedHold(l ...api.Edge) {
	x.t.Helper()
	x.refused("Hold", func() (api.Lit, api.Errno) { return 0, x.k.Hold(l...) })
}

func TestEdgesThatAreNone(t *testing.T) {
	x := begin(t, 2)
	ab := x.and(x.inputs...)
	many := api.Edge(2 * x.g.Len())
	for range 2 {
		for _, e := range []api.Edge{many, many + 1, many + 2, many + 3, 2 * api.MaxGates, 1 << 31, 1<<31 + 2, math.MaxUint32 - 1, math.MaxUint32} {
			x.refusedLit(e)
			x.refusedHold(e)
			x.refusedHold(e, ab)
			x.refusedHold(ab, e)
			x.refusedHold(ab, api.True, e^1, x.inputs[0])
		}
		x.lit(ab) // and once more where some gates have VARIABLES
	}
	x.input()
	x.lit(many)
	x.refusedLit(many + 2)
	x.means()
}

func TestAGraphWithoutGates(t *testing.T) {
	x := begin(t, 0)
	x.refusedLit(2)
	x.refusedHold(3)
	x.hold()
	x.lit(api.True)
	x.refusedHold(api.True, 2)
	x.means()
}

// small is a graph with an AND of ANDs, and some Edges of it.
func small(t *testing.T) (x *told, ab, top api.Edge) {
	t.Helper()
	x = begin(t, 4)
	ab = x.and(x.inputs[0], x.inputs[1]^1)
	top = x.and(ab^1, x.and(x.inputs[1], x.inputs[2])^1)
	return x, ab, top
}

// However many variables there are, but too few: nothing has changed; what needs no more than there are has room still.
func TestASinkWithoutVariables(t *testing.T) {
	for left := range 6 {
		x, ab, top := small(t)
		x.s.left = left
		x.short(func() api.Errno {
			l, err := x.k.Lit(top)
			if l != 0 {
				t.Error("Lit", l)
			}
			return err
		})
		x.short(func() api.Errno { return x.k.Hold(ab, top^1) })
		x.short(func() api.Errno { return x.k.Hold(x.inputs[3], x.inputs[3]^1, top) })
		for i := range left {
			e := []api.Edge{x.inputs[1], x.inputs[0], ab, api.False, x.inputs[3]}[i]
			if l, err := x.k.Lit(e); l == 0 || err != api.OK || x.k.Known() != i+1 {
				t.Fatal("of so many", left, "the variable", i, "is used up", l, err, x.k.Known())
			}
		}
		if _, err := x.k.Lit(top); err != api.ErrKnit || x.k.Known() != left {
			t.Error(left, err, x.k.Known())
		}
		x.s.left = -1
		if l, err := x.k.Lit(top); l <= 0 || err != api.OK {
			t.Error(l, err)
		}
		x.asked()
	}
}

// short: a call that has not variables enough.
func (x *told) short(call func() api.Errno) {
	x.t.Helper()
	if err := call(); err != api.ErrKnit {
		x.t.Error(err)
	}
	if x.s.adds != 0 {
		x.t.Error("clauses", x.s.clauses)
	}
	x.known()
}

// asked: all gates that have VARIABLES by now, as the Knit tells them; each its own one.
func (x *told) asked() {
	x.t.Helper()
	met := map[int]bool{}
	for n := range x.g.Len() {
		v := x.k.Var(n)
		if v == 0 {
			continue
		}
		if met[v] || !slices.Contains(x.s.fetched, v) {
			x.t.Error("gate", n, "variable", v)
		}
		met[v] = true
		x.vars[n] = v
	}
	x.defs = x.s.clauses
	x.known()
	x.means()
}

// Where some gates have VARIABLES, they keep them.
func TestASinkWhoseVariablesEndLater(t *testing.T) {
	x, ab, top := small(t)
	x.lit(ab)
	adds := x.s.adds
	x.s.left = 2
	if l, err := x.k.Lit(top); l != 0 || err != api.ErrKnit {
		t.Error(l, err)
	}
	x.known()
	if x.lit(ab) == 0 || x.s.adds != adds {
		t.Error(x.s.adds)
	}
	if err := x.k.Hold(ab); err != api.OK || x.s.adds != adds+1 {
		t.Error(err, x.s.adds)
	}
}

// Just as many variables as are needed.
func TestASinkWithJustEnough(t *testing.T) {
	x, ab, top := small(t)
	x.s.left = 6
	x.lit(top)
	x.hold(ab, top^1)
	x.hold()
	if l, err := x.k.Lit(x.inputs[3]); l != 0 || err != api.ErrKnit {
		t.Error(l, err)
	}
	if l, err := x.k.Lit(api.False); l != 0 || err != api.ErrKnit {
		t.Error(l, err)
	}
	x.known()
	x.means()
}

// Whichever Add it is that the Sink answers an error.
func TestASinkThatAddsNoMore(t *testing.T) {
	for wrong := range 9 {
		x, _, top := small(t)
		x.s.wrong = wrong
		if l, err := x.k.Lit(top); l != 0 || err != api.ErrKnit {
			t.Error(wrong, l, err)
		}
		// Nothing is promised now, but that calls end.
		x.k.Lit(top ^ 1)
		x.k.Hold(top, api.True, 1000)
		x.k.Hold()
		x.k.Value(make([]bool, 100), top)
		x.k.Var(3)
		x.k.Known()
	}
	for wrong := range 10 {
		x, ab, top := small(t)
		x.s.wrong = wrong
		if err := x.k.Hold(ab, top^1); err != api.ErrKnit {
			t.Error(wrong, err)
		}
	}
	x, _, _ := small(t)
	x.s.wrong = 0
	if l, err := x.k.Lit(api.True); l != 0 || err != api.ErrKnit {
		t.Error(l, err)
	}
	x, _, _ = small(t)
	x.s.wrong = 0
	if err := x.k.Hold(); err != api.ErrKnit {
		t.Error(err)
	}
	if x.s.wrong = 1; x.k.Hold(x.inputs[0]) != api.ErrKnit {
		t.Error("Hold of what needs no clause of its own")
	}
}

// odd is a Sink whose Var answers what is no variable's number, or what only just is.
type odd struct {
	count
	v int
}

func (o *odd) Var() int { return o.v }

func TestASinkOfOddVariables(t *testing.T) {
	for _, c := range []struct {
		v    int
		want api.Lit
		err  api.Errno
	}{
		{-1, 0, api.ErrKnit}, {math.MinInt, 0, api.ErrKnit}, {math.MinInt32, 0, api.ErrKnit}, {0, 0, api.ErrKnit},
		{math.MaxInt32 + 1, 0, api.ErrKnit}, {1 << 32, 0, api.ErrKnit}, {1<<32 + 1, 0, api.ErrKnit}, {math.MaxInt, 0, api.ErrKnit},
		{math.MaxInt32, math.MaxInt32, api.OK}, {1, 1, api.OK}, {api.MaxVars + 1, api.MaxVars + 1, api.OK},
	} {
		g := gate.New()
		e, _ := g.Input()
		k := knit.New(g, &odd{v: c.v})
		if l, err := k.Lit(e); l != c.want || err != c.err || k.Var(1) != int(c.want) {
			t.Error(c, l, err, k.Var(1))
		}
		if l, err := k.Lit(e ^ 1); l != -c.want || err != c.err {
			t.Error(c, l, err)
		}
		if said, ok := k.Value([]bool{false}, e); said || ok != (c.want == 1) {
			t.Error(c, said, ok)
		}
	}
}

// More gates than a solver has variables.
func TestMoreGatesThanVariables(t *testing.T) {
	g, s := gate.New(), sat.New(api.Options{})
	k := knit.New(g, s)
	last, _ := g.Input()
	for range api.MaxVars / 2 {
		e, _ := g.Input()
		last, _ = g.And(last^1, e)
	}
	if l, err := k.Lit(last); l != 0 || err != api.ErrKnit || k.Known() != 0 {
		t.Error(l, err, k.Known())
	}
	// One gate less has room.
	a, b, ok := g.Parts(int(last / 2))
	if !ok {
		t.Fatal(last)
	}
	if l, err := k.Lit(min(a, b)); l == 0 || err != api.OK || k.Known() != api.MaxVars-1 {
		t.Error(l, err, k.Known())
	}
	if n, err := s.Solve(-1); n != sat.Yes || err != api.OK {
		t.Error(n, err)
	}
	if _, ok := k.Value(s.Model(), a&^1); !ok {
		t.Error("Value")
	}
}

// What was handed in may be written over.
func TestWhatIsHandedInIsNotKept(t *testing.T) {
	x, ab, top := small(t)
	l := []api.Edge{ab, top ^ 1, x.inputs[3]}
	if err := x.k.Hold(l...); err != api.OK {
		t.Fatal(err)
	}
	clear(l)
	x.s.scribble()
	want := []api.Lit{api.Lit(x.k.Var(int(ab / 2))), -api.Lit(x.k.Var(int(top / 2))), api.Lit(x.k.Var(int(x.inputs[3] / 2)))}
	got := x.s.clauses[len(x.s.clauses)-1]
	if !slices.Equal(got, want) {
		t.Error(got, want)
	}
	x.s.clauses = x.s.clauses[:len(x.s.clauses)-1]
	x.asked()
}
