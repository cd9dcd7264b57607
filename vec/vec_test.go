package vec_test

import (
	"math"
	"slices"
	"testing"

	"lariat/api"
	"lariat/gate"
	"lariat/vec"
)

// P11.1

// has: whether a number is one of so many bits, by the words.
func has(n int64, width int) bool {
	half := int64(1) << (width - 1)
	return n >= -half && n < half
}

func wantWidth(low, high int64) int {
	if low > high {
		return 0
	}
	for width := 1; width <= api.MaxWidth; width++ {
		if has(low, width) && has(high, width) {
			return width
		}
	}
	return 0
}

// edges are numbers near to where one bit more is needed, and the utmost.
func edges() []int64 {
	l := []int64{0, math.MinInt64, math.MinInt64 + 1, math.MaxInt64, math.MaxInt64 - 1}
	for i := range 63 {
		n := int64(1) << i
		l = append(l, n-1, n, n+1, -n-1, -n, 1-n)
	}
	slices.Sort(l)
	return slices.Compact(l)
}

func TestWidth(t *testing.T) {
	for _, low := range edges() {
		for _, high := range edges() {
			if got, want := vec.Width(low, high), wantWidth(low, high); got != want {
				t.Fatal(low, high, got, want)
			}
		}
	}
	for low := int64(-70); low <= 70; low++ {
		for high := int64(-70); high <= 70; high++ {
			if got, want := vec.Width(low, high), wantWidth(low, high); got != want {
				t.Fatal(low, high, got, want)
			}
		}
	}
	if api.MaxWidth != 32 || api.ErrVec != 111 {
		t.Error("constants")
	}
}

func isConst(t *testing.T, n int64) {
	t.Helper()
	a, err := vec.Const(n)
	width := wantWidth(n, n)
	if width == 0 {
		if len(a) != 0 || err != api.ErrVec {
			t.Error(n, a, err)
		}
		return
	}
	if len(a) != width || err != api.OK {
		t.Fatal(n, a, err)
	}
	for i, b := range bitsOf(n, width) {
		if b && a[i] != api.True || !b && a[i] != api.False {
			t.Error(n, a)
		}
	}
	g := gate.New()
	for _, values := range [][]bool{nil, {}, {true, true}} {
		if got, err := vec.Number(g, values, a); got != n || err != api.OK {
			t.Error(n, got, err)
		}
	}
}

func TestConst(t *testing.T) {
	for _, n := range edges() {
		isConst(t, n)
	}
	for n := int64(-300); n <= 300; n++ {
		isConst(t, n)
	}
	for _, c := range []struct {
		n    int64
		want vec.Vec
	}{{0, vec.Vec{0}}, {-1, vec.Vec{1}}, {1, vec.Vec{1, 0}}, {-2, vec.Vec{0, 1}}, {3, vec.Vec{1, 1, 0}}, {-3, vec.Vec{1, 0, 1}}, {-4, vec.Vec{0, 0, 1}}} {
		if a, err := vec.Const(c.n); !slices.Equal(a, c.want) || err != api.OK {
			t.Error(c.n, a, err)
		}
	}
}

func TestInput(t *testing.T) {
	g := gate.New()
	var all []api.Edge
	for width := 1; width <= api.MaxWidth; width++ {
		many := g.Len()
		a, err := vec.Input(g, width)
		if err != api.OK || len(a) != width || g.Len() != many+width {
			t.Fatal(width, a, err, many, g.Len())
		}
		// The lowest first: in the order in which INPUTS are made.
		all = append(all, a...)
		if !slices.Equal(g.Inputs(), all) {
			t.Fatal(width, a, g.Inputs())
		}
		for _, n := range edges() {
			if !has(n, width) {
				continue
			}
			values := append(make([]bool, many-1), bitsOf(n, width)...)
			if got, err := vec.Number(g, values, a); got != n || err != api.OK {
				t.Fatal(width, n, got, err)
			}
		}
	}
}

func TestInputBehindGates(t *testing.T) {
	g := gate.New()
	a := inputs(t, g, 2)
	both, _ := g.And(a...)
	b := inputs(t, g, 3)
	if !slices.Equal(g.Inputs(), slices.Concat(a, b)) {
		t.Error(a, b, g.Inputs())
	}
	values := []bool{true, true, false, true, true}
	if n, err := vec.Number(g, values, b); n != -2 || err != api.OK {
		t.Error(n, err)
	}
	if n, err := vec.Number(g, values, vec.Vec{both, b[0], a[1], b[0]}); n != 5 || err != api.OK {
		t.Error(n, err)
	}
}

func TestInputWrong(t *testing.T) {
	g := gate.New()
	inputs(t, g, 2)
	for _, width := range []int{0, -1, 33, 34, 64, 1 << 20, math.MaxInt, math.MinInt} {
		if a, err := vec.Input(g, width); len(a) != 0 || err != api.ErrVec || g.Len() != 3 {
			t.Error(width, a, err, g.Len())
		}
	}
}

func TestWiden(t *testing.T) {
	g := gate.New()
	for from := 1; from <= api.MaxWidth; from++ {
		a := inputs(t, g, from)
		many := g.Len()
		for to := from; to <= api.MaxWidth; to++ {
			b := of(t, "Widen", to, func() (vec.Vec, api.Errno) { return vec.Widen(a, to) })
			for _, n := range edges() {
				if !has(n, from) {
					continue
				}
				values := append(make([]bool, many-1-from), bitsOf(n, from)...)
				if got := says(t, g, values, b); got != n {
					t.Fatal(from, to, n, got)
				}
			}
			if !slices.Equal(b[:from], a) {
				t.Error(from, to, a, b)
			}
		}
	}
}

func TestWidenWrong(t *testing.T) {
	for from := range 40 {
		a := make(vec.Vec, from)
		for _, to := range []int{math.MinInt, -1, 0, 1, 2, 3, 30, 31, 32, 33, 34, 64, 1 << 40, math.MaxInt} {
			b, err := vec.Widen(a, to)
			if from >= 1 && from <= to && to <= api.MaxWidth {
				if len(b) != to || err != api.OK {
					t.Error(from, to, b, err)
				}
			} else if len(b) != 0 || err != api.ErrVec {
				t.Error(from, to, b, err)
			}
		}
	}
	// The bits are counted, not those that the number would need.
	if b, err := vec.Widen(vec.Vec{1, 0, 0}, 2); len(b) != 0 || err != api.ErrVec {
		t.Error(b, err)
	}
	// There is no graph to ask whether an Edge's gate is there.
	if b, err := vec.Widen(vec.Vec{99, math.MaxUint32}, 4); !slices.Equal(b, vec.Vec{99, math.MaxUint32, math.MaxUint32, math.MaxUint32}) || err != api.OK {
		t.Error(b, err)
	}
}

func TestNumber(t *testing.T) {
	g := gate.New()
	a := inputs(t, g, 3)
	for row := range 8 {
		values := bitsOf(int64(row), 3)
		want := int64(row&3) - int64(row&4)
		// What is beyond the INPUTS has no weight; INPUTS without a value are false.
		for _, l := range [][]bool{values, append(slices.Clone(values), true, true)} {
			if n, err := vec.Number(g, l, a); n != want || err != api.OK {
				t.Error(row, n, want, err)
			}
		}
		if n, err := vec.Number(g, values[:2], a); n != int64(row&3) || err != api.OK {
			t.Error(row, n, err)
		}
		if n, err := vec.Number(g, values, vec.Vec{a[2] ^ 1, a[0], a[0]}); err != api.OK || n != int64(1-row>>2)-2*int64(row&1) {
			t.Error(row, n, err)
		}
	}
	if n, err := vec.Number(g, nil, vec.Vec{1}); n != -1 || err != api.OK {
		t.Error(n, err)
	}
	all := make(vec.Vec, api.MaxWidth)
	all[31] = api.True
	if n, err := vec.Number(g, nil, all); n != -1<<31 || err != api.OK {
		t.Error(n, err)
	}
	for i := range all {
		all[i] = api.True
	}
	if n, err := vec.Number(g, nil, all); n != -1 || err != api.OK {
		t.Error(n, err)
	}
	all[31] = api.False
	if n, err := vec.Number(g, nil, all); n != 1<<31-1 || err != api.OK {
		t.Error(n, err)
	}
}

// Answers are new memory: written over, they change neither what was handed in nor what is asked next.
func TestNewMemory(t *testing.T) {
	g := gate.New()
	a, b := inputs(t, g, 3), inputs(t, g, 3)
	wasA, wasB := slices.Clone(a), slices.Clone(b)
	c, _ := g.Input()
	spoil := func(l vec.Vec) {
		l = l[:cap(l)]
		for i := range l {
			l[i] = 77
		}
	}
	for name, ask := range map[string]func() (vec.Vec, api.Errno){
		"Const":         func() (vec.Vec, api.Errno) { return vec.Const(-3) },
		"Widen":         func() (vec.Vec, api.Errno) { return vec.Widen(a, 3) },
		"Widen more":    func() (vec.Vec, api.Errno) { return vec.Widen(a, 5) },
		"Add":           func() (vec.Vec, api.Errno) { return vec.Add(g, a, b) },
		"Sub":           func() (vec.Vec, api.Errno) { return vec.Sub(g, a, b) },
		"Times":         func() (vec.Vec, api.Errno) { return vec.Times(g, a, b) },
		"Choose":        func() (vec.Vec, api.Errno) { return vec.Choose(g, c, a, b) },
		"Choose first":  func() (vec.Vec, api.Errno) { return vec.Choose(g, api.True, a, b) },
		"Choose second": func() (vec.Vec, api.Errno) { return vec.Choose(g, api.False, a, b) },
	} {
		first, err := ask()
		was := slices.Clone(first)
		second, err2 := ask()
		spoil(first)
		if third, err3 := ask(); err+err2+err3 != api.OK || !slices.Equal(second, was) || !slices.Equal(third, was) {
			t.Error(name, was, second, third)
		}
		if !slices.Equal(a, wasA) || !slices.Equal(b, wasB) {
			t.Error(name, a, b)
		}
	}
	made := inputs(t, g, 4)
	spoil(made)
	if l := g.Inputs(); slices.Contains(l, 77) || len(l) != 11 {
		t.Error(l)
	}
}
