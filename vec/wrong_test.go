package vec_test

import (
	"math"
	"slices"
	"testing"

	"lariat/api"
	"lariat/gate"
	"lariat/vec"
)

// Errors

// answered is what a call answered, whichever it was: a number's bits, an Edge, a number.
type answered struct {
	a   vec.Vec
	e   api.Edge
	n   int64
	err api.Errno
}

// calls are those of two numbers, by their names.
func calls(g *gate.Graph) map[string]func(a, b vec.Vec) answered {
	l := map[string]func(a, b vec.Vec) answered{
		"Less": func(a, b vec.Vec) answered {
			e, err := vec.Less(g, a, b)
			return answered{e: e, err: err}
		},
		"Equal": func(a, b vec.Vec) answered {
			e, err := vec.Equal(g, a, b)
			return answered{e: e, err: err}
		},
		"Choose": func(a, b vec.Vec) answered {
			v, err := vec.Choose(g, api.True, a, b)
			return answered{a: v, err: err}
		},
		"Choose of an Edge that is none": func(a, b vec.Vec) answered {
			v, err := vec.Choose(g, math.MaxUint32, a, b)
			return answered{a: v, err: err}
		},
	}
	for name, f := range map[string]func(g *gate.Graph, a, b vec.Vec) (vec.Vec, api.Errno){"Add": vec.Add, "Sub": vec.Sub, "Times": vec.Times} {
		l[name] = func(a, b vec.Vec) answered {
			v, err := f(g, a, b)
			return answered{a: v, err: err}
		}
	}
	return l
}

// refused looks whether a call was refused by that error, and changed nothing.
func refused(t *testing.T, g *gate.Graph, want api.Errno, name string, ask func() answered) {
	t.Helper()
	many, l := g.Len(), g.Inputs()
	if x := ask(); len(x.a) != 0 || x.e != api.False || x.n != 0 || x.err != want {
		t.Error(name, x, want)
	}
	if g.Len() != many || !slices.Equal(g.Inputs(), l) {
		t.Error(name, "made gates", many, g.Len())
	}
}

// wrongBits are lists that are no number's bits; some have Edges that are none, which are looked at later.
func wrongBits() []vec.Vec {
	none := make(vec.Vec, 33)
	for i := range none {
		none[i] = 1000 + api.Edge(i)
	}
	return []vec.Vec{nil, {}, make(vec.Vec, 33), make(vec.Vec, 34), make(vec.Vec, 100000), none}
}

func TestBitsThatAreNone(t *testing.T) {
	g := gate.New()
	a := inputs(t, g, 3)
	for _, wrong := range wrongBits() {
		for _, right := range []vec.Vec{a, a[:1], {math.MaxUint32}, make(vec.Vec, 32), wrong} {
			for name, f := range calls(g) {
				refused(t, g, api.ErrVec, name, func() answered { return f(wrong, right) })
				refused(t, g, api.ErrVec, name, func() answered { return f(right, wrong) })
			}
		}
		refused(t, g, api.ErrVec, "Number", func() answered {
			n, err := vec.Number(g, []bool{true}, wrong)
			return answered{n: n, err: err}
		})
	}
}

// Where what comes of it would have too many bits, and where it has just as many as may be.
func TestTooManyBits(t *testing.T) {
	g := gate.New()
	for wa := 1; wa <= api.MaxWidth; wa++ {
		for wb := 1; wb <= api.MaxWidth; wb++ {
			want := map[string]int{"Add": max(wa, wb) + 1, "Sub": max(wa, wb) + 1, "Times": wa + wb, "Choose": max(wa, wb)}
			for name, f := range calls(g) {
				width, ok := want[name]
				if !ok {
					continue
				}
				if x := f(make(vec.Vec, wa), make(vec.Vec, wb)); width <= api.MaxWidth && (len(x.a) != width || x.err != api.OK) {
					t.Error(name, wa, wb, x)
				}
				if width > api.MaxWidth {
					refused(t, g, api.ErrVec, name, func() answered { return f(make(vec.Vec, wa), make(vec.Vec, wb)) })
					// Ahead of an Edge that is none.
					none := make(vec.Vec, wa)
					none[wa-1] = 1 << 30
					refused(t, g, api.ErrVec, name, func() answered { return f(none, make(vec.Vec, wb)) })
				}
			}
		}
	}
	for _, name := range []string{"Less", "Equal"} {
		for _, wa := range []int{1, 31, 32} {
			if x := calls(g)[name](make(vec.Vec, wa), make(vec.Vec, 32)); x.err != api.OK {
				t.Error(name, wa, x)
			}
		}
	}
}

func TestEdgesThatAreNone(t *testing.T) {
	g := gate.New()
	a, b := inputs(t, g, 3), inputs(t, g, 2)
	g.And(a...)
	next := api.Edge(2 * g.Len())
	for _, none := range []api.Edge{next, next + 1, next + 2, 2 * api.MaxGates, 1 << 31, math.MaxUint32} {
		for i := range a {
			wrong := slices.Clone(a)
			wrong[i] = none
			for name, f := range calls(g) {
				refused(t, g, api.ErrGate, name, func() answered { return f(wrong, b) })
				refused(t, g, api.ErrGate, name, func() answered { return f(b, wrong) })
				refused(t, g, api.ErrGate, name, func() answered { return f(wrong, wrong) })
				refused(t, g, api.ErrGate, name, func() answered { return f(wrong, vec.Vec{api.False}) })
				refused(t, g, api.ErrGate, name, func() answered { return f(vec.Vec{api.False}, wrong) })
			}
			refused(t, g, api.ErrGate, "Number", func() answered {
				n, err := vec.Number(g, nil, wrong)
				return answered{n: n, err: err}
			})
		}
		refused(t, g, api.ErrGate, "Choose", func() answered {
			v, err := vec.Choose(g, none, a, b)
			return answered{a: v, err: err}
		})
	}
}

// full is a graph with room for so many gates more.
func full(t *testing.T, room int) *gate.Graph {
	t.Helper()
	g := gate.New()
	for g.Len() < api.MaxGates-room {
		if _, err := g.Input(); err != api.OK {
			t.Fatal(g.Len(), err)
		}
	}
	return g
}

func TestNoRoom(t *testing.T) {
	g := full(t, 0)
	a, b := vec.Vec{2, 4, 6}, vec.Vec{8, 10}
	for name, f := range calls(g) {
		if name == "Choose" {
			continue // which is True's: it needs no gate
		}
		refused(t, g, api.ErrGate, name, func() answered { return f(a, b) })
		refused(t, g, api.ErrGate, name, func() answered { return f(b, a) })
	}
	refused(t, g, api.ErrGate, "Choose", func() answered {
		v, err := vec.Choose(g, 12, a, b)
		return answered{a: v, err: err}
	})
	// False even where the last bits, of which no gate is made, would tell that it is below.
	refused(t, g, api.ErrGate, "Less", func() answered {
		e, err := vec.Less(g, vec.Vec{2, api.True}, vec.Vec{8, api.False})
		return answered{e: e, err: err}
	})
	values := []bool{true, false, true, true, false}
	if n, err := vec.Number(g, values, a); n != -3 || err != api.OK {
		t.Error(n, err)
	}
	// Where no gate is needed, there need be no room.
	three, _ := vec.Const(3)
	ask(t, g, api.True, three, three).holds(t, g, nil)
}

// An Input for which there is room in part makes nothing.
func TestNoRoomForAnInput(t *testing.T) {
	for room := range 4 {
		g := full(t, room)
		for _, width := range []int{room + 1, room + 2, api.MaxWidth} {
			refused(t, g, api.ErrGate, "Input", func() answered {
				a, err := vec.Input(g, width)
				return answered{a: a, err: err}
			})
		}
		refused(t, g, api.ErrVec, "Input", func() answered {
			a, err := vec.Input(g, api.MaxWidth+1)
			return answered{a: a, err: err}
		})
		if room > 0 {
			if a := inputs(t, g, room); g.Len() != api.MaxGates || a[room-1] != 2*api.MaxGates-2 {
				t.Error(room, a, g.Len())
			}
		}
	}
}

// With room for some of a call's gates: refused, till there is room for all of them.
func TestRoomForSome(t *testing.T) {
	a, b := vec.Vec{2, 4, 6}, vec.Vec{8, 10}
	names := []string{"Add", "Sub", "Times", "Less", "Equal"}
	for _, name := range names {
		need := gate.New()
		inputs(t, need, 5)
		if x := calls(need)[name](a, b); x.err != api.OK {
			t.Fatal(name, x)
		}
		gates := need.Len() - 6
		for _, room := range []int{1, gates / 2, gates - 1, gates} {
			g := full(t, room)
			x := calls(g)[name](a, b)
			if room == gates {
				if x.err != api.OK || g.Len() != api.MaxGates {
					t.Error(name, room, x, g.Len())
				}
			} else if len(x.a) != 0 || x.e != api.False || x.err != api.ErrGate {
				t.Error(name, room, x)
			}
		}
	}
}
