package vec_test

import (
	"testing"

	"lariat/api"
	"lariat/gate"
	"lariat/vec"
)

// P11.2, P11.3

func TestTheChaptersExample(t *testing.T) {
	g := gate.New()
	a, _ := vec.Const(3)
	b, _ := vec.Const(-4)
	sum, err := vec.Add(g, a, b)
	if n, err2 := vec.Number(g, nil, sum); n != -1 || err != api.OK || err2 != api.OK || len(sum) != 4 {
		t.Error(n, sum, err, err2)
	}
}

// All values of all short numbers.
func TestAllShortNumbers(t *testing.T) {
	for wa := 1; wa <= 5; wa++ {
		for wb := 1; wb <= 5; wb++ {
			g := gate.New()
			a, b, c := inputs(t, g, wa), inputs(t, g, wb), inputs(t, g, 1)
			x := ask(t, g, c[0], a, b)
			for row := range 1 << (wa + wb + 1) {
				x.holds(t, g, bitsOf(int64(row), wa+wb+1))
			}
		}
	}
}

// ends are the numbers of so many bits near to where they end, and some between.
func ends(width int) []int64 {
	var l []int64
	for _, n := range edges() {
		if has(n, width) {
			l = append(l, n)
		}
	}
	return l
}

// Long numbers, up to where there would be too many bits.
func TestLongNumbers(t *testing.T) {
	for _, w := range [][2]int{{31, 31}, {31, 1}, {1, 31}, {16, 16}, {15, 17}, {17, 15}, {2, 30}, {30, 2}, {20, 12}, {32, 32}, {32, 1}, {1, 32}, {31, 32}, {9, 32}} {
		g := gate.New()
		a, b, c := inputs(t, g, w[0]), inputs(t, g, w[1]), inputs(t, g, 1)
		x := ask(t, g, c[0], a, b)
		hold := func(n, k int64, first bool) {
			t.Helper()
			x.holds(t, g, append(append(bitsOf(n, w[0]), bitsOf(k, w[1])...), first))
		}
		r := chance(w[0])
		lowA, lowB := int64(-1)<<(w[0]-1), int64(-1)<<(w[1]-1)
		for _, n := range []int64{lowA, ^lowA, 0, -1, lowA + 1} {
			for _, k := range ends(w[1]) {
				hold(n, k, k&1 == 0)
			}
		}
		for _, k := range []int64{lowB, ^lowB, 0, -1, lowB + 1} {
			for _, n := range ends(w[0]) {
				hold(n, k, n&1 == 0)
			}
		}
		for range 300 {
			n, k := r.Int64N(-2*lowA)+lowA, r.Int64N(-2*lowB)+lowB
			hold(n, k, n&1 == 0)
		}
	}
}

// A number and itself, or the same one in more bits, or one below or above it.
func TestNearlyTheSame(t *testing.T) {
	for width := 1; width <= 6; width++ {
		g := gate.New()
		a := inputs(t, g, width)
		one, _ := vec.Const(1)
		wide, _ := vec.Widen(a, width+3)
		more, _ := vec.Add(g, a, one)
		fewer, _ := vec.Sub(g, a, one)
		all := []vec.Vec{a, wide, more, fewer}
		for _, p := range all {
			for _, q := range all {
				x := ask(t, g, a[0], p, q)
				for row := range 1 << width {
					x.holds(t, g, bitsOf(int64(row), width))
				}
			}
		}
	}
}

// Of False and True alone no gate is made.
func TestConstants(t *testing.T) {
	g := gate.New()
	for n := int64(-20); n <= 20; n++ {
		for k := int64(-20); k <= 20; k++ {
			a, _ := vec.Const(n)
			b, _ := vec.Const(k)
			ask(t, g, api.True, a, b).holds(t, g, nil)
			ask(t, g, api.False, a, b).holds(t, g, nil)
		}
	}
	if g.Len() != 1 {
		t.Error(g.Len())
	}
}

// A number that may be anything beside one that is told.
func TestWithConstants(t *testing.T) {
	for n := int64(-9); n <= 9; n++ {
		k, _ := vec.Const(n)
		for width := 1; width <= 5; width++ {
			g := gate.New()
			a := inputs(t, g, width)
			for _, x := range []*asked{ask(t, g, a[0], a, k), ask(t, g, a[width-1]^1, k, a)} {
				for row := range 1 << width {
					x.holds(t, g, bitsOf(int64(row), width))
				}
			}
		}
	}
}

// Numbers whose bits are any Edges: turned, more than once the same, False, True, of INPUTS and of ANDs.
func TestAnyEdges(t *testing.T) {
	for seed := range 300 {
		r := chance(seed)
		g := gate.New()
		inputs(t, g, 4)
		for range seed % 6 {
			g.And(api.Edge(r.IntN(2*g.Len())), api.Edge(r.IntN(2*g.Len())))
		}
		anyOf := func(width int) vec.Vec {
			a := make(vec.Vec, width, width+3)
			for i := range a {
				a[i] = api.Edge(r.IntN(2 * g.Len()))
			}
			return a
		}
		a, b := anyOf(1+r.IntN(8)), anyOf(1+r.IntN(8))
		x := ask(t, g, anyOf(1)[0], a, b)
		y := ask(t, g, anyOf(1)[0], a, a)
		for row := range 16 {
			x.holds(t, g, bitsOf(int64(row), 4))
			y.holds(t, g, bitsOf(int64(row), 4))
		}
	}
}

// What comes of a call may be handed in again.
func TestOneBehindTheOther(t *testing.T) {
	g := gate.New()
	a, b, c := inputs(t, g, 3), inputs(t, g, 3), inputs(t, g, 2)
	sum, _ := vec.Add(g, a, b)
	square, _ := vec.Times(g, sum, sum)
	all, _ := vec.Sub(g, square, c)
	below, err := vec.Less(g, all, c)
	if err != api.OK {
		t.Fatal(err)
	}
	for row := range 256 {
		values := bitsOf(int64(row), 8)
		x, y, z := number(values[:3]), number(values[3:6]), number(values[6:])
		want := (x+y)*(x+y) - z
		if n := says(t, g, values, all); n != want || is(t, g, values, below) != (want < z) {
			t.Error(x, y, z, n, want)
		}
	}
}

// P2: two graphs of which the same was asked are the same.
func TestTheSameAskedOfTwoGraphs(t *testing.T) {
	var many [2]int
	var last [2]api.Edge
	for i := range 2 {
		g := gate.New()
		x := ask(t, g, inputs(t, g, 1)[0], inputs(t, g, 5), inputs(t, g, 7))
		many[i], last[i] = g.Len(), x.same
	}
	if many[0] != many[1] || last[0] != last[1] {
		t.Error(many, last)
	}
}
