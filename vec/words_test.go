package vec_test

import (
	"math/rand/v2"
	"slices"
	"testing"

	"lariat/api"
	"lariat/gate"
	"lariat/vec"
)

// chance: the same one each time.
func chance(seed int) *rand.Rand {
	return rand.New(rand.NewPCG(uint64(seed), 11))
}

// number is what bits are, by the words: each counts twice as much as the one ahead of it, the last one below 0.
func number(bits []bool) int64 {
	var n int64
	weight := int64(1)
	for i, b := range bits {
		if i == len(bits)-1 {
			weight = -weight
		}
		if b {
			n += weight
		}
		weight *= 2
	}
	return n
}

// bitsOf is so many bits, of which the lowest one is that of n.
func bitsOf(n int64, width int) []bool {
	bits := make([]bool, width)
	for i := range bits {
		bits[i] = uint64(n)>>i&1 == 1
	}
	return bits
}

// says is what a number's bits are for some values, by the graph alone.
func says(t *testing.T, g *gate.Graph, values []bool, a vec.Vec) int64 {
	t.Helper()
	bits, err := g.Eval(values, a...)
	if err != api.OK || len(bits) != len(a) {
		t.Fatal("Eval", a, bits, err)
	}
	return number(bits)
}

func is(t *testing.T, g *gate.Graph, values []bool, e api.Edge) bool {
	t.Helper()
	said, err := g.Eval(values, e)
	if err != api.OK || len(said) != 1 {
		t.Fatal("Eval", e, said, err)
	}
	return said[0]
}

// inputs is a number of so many new INPUTS.
func inputs(t *testing.T, g *gate.Graph, width int) vec.Vec {
	t.Helper()
	a, err := vec.Input(g, width)
	if err != api.OK || len(a) != width {
		t.Fatal("Input", width, a, err)
	}
	return a
}

// of is the answer, which must be one of so many bits.
func of(t *testing.T, name string, width int, ask func() (vec.Vec, api.Errno)) vec.Vec {
	t.Helper()
	a, err := ask()
	if err != api.OK || len(a) != width {
		t.Fatal(name, a, err, "of so many bits", width)
	}
	return a
}

// asked is all that may be asked of two numbers, and of what chooses.
type asked struct {
	a, b       vec.Vec
	c          api.Edge
	sum, sub   vec.Vec
	times      vec.Vec
	chosen     vec.Vec
	less, same api.Edge
}

// ask asks all that has bits enough.
func ask(t *testing.T, g *gate.Graph, c api.Edge, a, b vec.Vec) *asked {
	t.Helper()
	x := &asked{a: a, b: b, c: c}
	wasA, wasB := slices.Clone(a[:cap(a)]), slices.Clone(b[:cap(b)])
	longer := max(len(a), len(b))
	if longer < api.MaxWidth {
		x.sum = of(t, "Add", longer+1, func() (vec.Vec, api.Errno) { return vec.Add(g, a, b) })
		x.sub = of(t, "Sub", longer+1, func() (vec.Vec, api.Errno) { return vec.Sub(g, a, b) })
	}
	if len(a)+len(b) <= api.MaxWidth {
		x.times = of(t, "Times", len(a)+len(b), func() (vec.Vec, api.Errno) { return vec.Times(g, a, b) })
	}
	x.chosen = of(t, "Choose", longer, func() (vec.Vec, api.Errno) { return vec.Choose(g, c, a, b) })
	var err, err2 api.Errno
	x.less, err = vec.Less(g, a, b)
	x.same, err2 = vec.Equal(g, a, b)
	if err != api.OK || err2 != api.OK {
		t.Fatal("Less, Equal", a, b, err, err2)
	}
	if !slices.Equal(a[:cap(a)], wasA) || !slices.Equal(b[:cap(b)], wasB) {
		t.Fatal("changed what was handed in", wasA, a, wasB, b)
	}
	return x
}

// holds looks at all answers, for some values.
func (x *asked) holds(t *testing.T, g *gate.Graph, values []bool) {
	t.Helper()
	a, b := says(t, g, values, x.a), says(t, g, values, x.b)
	chosen := b
	if is(t, g, values, x.c) {
		chosen = a
	}
	for _, c := range []struct {
		name string
		got  vec.Vec
		want int64
	}{{"Add", x.sum, a + b}, {"Sub", x.sub, a - b}, {"Times", x.times, a * b}, {"Choose", x.chosen, chosen}} {
		if len(c.got) == 0 {
			continue // it had not bits enough
		}
		if n := says(t, g, values, c.got); n != c.want {
			t.Fatal(c.name, a, b, n, c.want, len(x.a), len(x.b))
		}
		if n, err := vec.Number(g, values, c.got); n != c.want || err != api.OK {
			t.Fatal("Number of", c.name, a, b, n, c.want, err)
		}
	}
	if less, same := is(t, g, values, x.less), is(t, g, values, x.same); less != (a < b) || same != (a == b) {
		t.Fatal("Less, Equal", a, b, less, same, len(x.a), len(x.b))
	}
}
