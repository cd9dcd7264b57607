package rank_test

import (
	"math"
	"slices"
	"testing"

	"lariat/api"
	"lariat/rank"
)

// plain says once more, from the words, what a Rank is: each variable's score, and whether it waits; the first of both is no variable's.
type plain struct {
	scores []int64
	waits  []bool
}

func newPlain(vars int) *plain {
	p := &plain{make([]int64, 1), make([]bool, 1)}
	for range vars {
		p.grow()
	}
	return p
}

func (p *plain) grow() int {
	p.scores = append(p.scores, 0)
	p.waits = append(p.waits, true)
	return len(p.scores) - 1
}

func (p *plain) bump(v int, by int64) {
	p.scores[v] = min(p.scores[v]+by, api.MaxScore)
}

func (p *plain) halve() {
	for v := range p.scores {
		p.scores[v] >>= 1
	}
}

func (p *plain) pop() int {
	best := 0
	for v, waits := range p.waits {
		if waits && (best == 0 || p.scores[v] > p.scores[best]) {
			best = v
		}
	}
	p.waits[best] = false
	return best
}

// none is what is no variable of so many.
func none(vars int) []int {
	return []int{
		0, -1, -2, -vars, -vars - 1, vars + 1, vars + 2, api.MaxVars + 1, math.MinInt32, math.MaxInt32,
		1<<32 + 1, 1<<33 + 1, math.MinInt + 1, math.MinInt, math.MaxInt,
	}
}

// is holds a Rank against what it should be.
func is(t *testing.T, r *rank.Rank, p *plain) {
	t.Helper()
	vars, many := len(p.scores)-1, 0
	for v := 1; v <= vars; v++ {
		if r.Score(v) != p.scores[v] || r.Waits(v) != p.waits[v] {
			t.Fatal("variable", v, r.Score(v), p.scores[v], r.Waits(v), p.waits[v])
		}
		if p.waits[v] {
			many++
		}
	}
	if r.Vars() != vars || r.Len() != many {
		t.Fatal("Vars", r.Vars(), vars, "Len", r.Len(), many)
	}
}

// order takes all that wait.
func order(r *rank.Rank) []int {
	var all []int
	for v, ok := r.Pop(); ok; v, ok = r.Pop() {
		all = append(all, v)
	}
	return all
}

func pops(t *testing.T, r *rank.Rank, want ...int) {
	t.Helper()
	if got := order(r); !slices.Equal(got, want) {
		t.Error("Pop", got, "but should be", want)
	}
}

func bump(t *testing.T, r *rank.Rank, v int, by int64) {
	t.Helper()
	if err := r.Bump(v, by); err != api.OK {
		t.Error("Bump", v, by, err)
	}
}

func push(t *testing.T, r *rank.Rank, v int) {
	t.Helper()
	if err := r.Push(v); err != api.OK || !r.Waits(v) {
		t.Error("Push", v, err, r.Waits(v))
	}
}

// P3.1

func TestNew(t *testing.T) {
	for _, c := range []struct{ in, vars int }{
		{0, 0}, {-1, 0}, {-2, 0}, {-api.MaxVars, 0}, {math.MinInt32, 0}, {math.MinInt, 0}, {math.MinInt + 5, 0},
		{1, 1}, {2, 2}, {7, 7}, {1000, 1000},
	} {
		r := rank.New(c.in)
		is(t, r, newPlain(c.vars))
		var want []int
		for v := 1; v <= c.vars; v++ {
			want = append(want, v)
		}
		pops(t, r, want...)
	}
}

func TestNewOfAsManyAsMayBe(t *testing.T) {
	for _, vars := range []int{api.MaxVars, api.MaxVars + 1, 2 * api.MaxVars, math.MaxInt32, 1<<32 + 1, math.MaxInt} {
		r := rank.New(vars)
		is(t, r, newPlain(api.MaxVars))
		if v := r.Grow(); v != 0 {
			t.Error(vars, "Grow", v)
		}
		is(t, r, newPlain(api.MaxVars))
		all := order(r)
		for i, v := range all {
			if v != i+1 {
				t.Fatal(vars, "Pop", i, v)
			}
		}
		if len(all) != api.MaxVars {
			t.Error(vars, len(all))
		}
	}
}

func TestGrow(t *testing.T) {
	for _, vars := range []int{-3, 0, 1, 5} {
		r, p := rank.New(vars), newPlain(vars)
		for range 100 {
			if v, want := r.Grow(), p.grow(); v != want {
				t.Fatal(vars, v, want)
			}
			is(t, r, p)
		}
	}
}

func TestGrowAtTheLimit(t *testing.T) {
	r, p := rank.New(api.MaxVars-2), newPlain(api.MaxVars)
	for _, want := range []int{api.MaxVars - 1, api.MaxVars, 0, 0} {
		if v := r.Grow(); v != want {
			t.Error(v, want)
		}
	}
	is(t, r, p)
	bump(t, r, api.MaxVars, 1)
	if v, ok := r.Pop(); v != api.MaxVars || !ok {
		t.Error("Pop", v, ok)
	}
	if v := r.Grow(); v != 0 || r.Vars() != api.MaxVars || r.Len() != api.MaxVars-1 || r.Waits(api.MaxVars) || r.Score(api.MaxVars) != 1 {
		t.Error("Grow", v, r.Vars(), r.Len())
	}
}

func TestGrowWaitsInItsPlace(t *testing.T) {
	r := rank.New(3)
	bump(t, r, 2, 4)
	if v, ok := r.Pop(); v != 2 || !ok {
		t.Error("Pop", v, ok)
	}
	if v := r.Grow(); v != 4 || r.Score(4) != 0 || !r.Waits(4) || r.Len() != 3 {
		t.Error("Grow", v, r.Score(4), r.Waits(4), r.Len())
	}
	bump(t, r, 4, 1)
	push(t, r, 2)
	pops(t, r, 2, 4, 1, 3)
	if v := r.Grow(); v != 5 || !r.Waits(5) || r.Len() != 1 {
		t.Error("Grow", v, r.Waits(5), r.Len())
	}
	pops(t, r, 5)
}

func TestAskingOfNoVariable(t *testing.T) {
	for _, vars := range []int{0, 1, 3, api.MaxVars} {
		r := rank.New(vars)
		for v := 1; v <= vars; v++ {
			bump(t, r, v, 9)
		}
		for _, v := range none(vars) {
			if r.Score(v) != 0 || r.Waits(v) {
				t.Error(vars, v, r.Score(v), r.Waits(v))
			}
		}
	}
}

// P3.2

func TestBump(t *testing.T) {
	for _, c := range []struct {
		name string
		by   []int64
		want int64
	}{
		{"by 0", []int64{0}, 0},
		{"by 1", []int64{1}, 1},
		{"by 0 behind 1", []int64{1, 0}, 1},
		{"more and more", []int64{3, 4, 5}, 12},
		{"more than 32 bits", []int64{1 << 32, 1 << 33}, 3 << 32},
		{"by MaxScore", []int64{api.MaxScore}, api.MaxScore},
		{"one less than MaxScore", []int64{api.MaxScore - 1}, api.MaxScore - 1},
		{"just to MaxScore", []int64{api.MaxScore - 1, 1}, api.MaxScore},
		{"one beyond MaxScore", []int64{api.MaxScore - 1, 2}, api.MaxScore},
		{"at MaxScore by 0", []int64{api.MaxScore, 0}, api.MaxScore},
		{"at MaxScore by 1", []int64{api.MaxScore, 1}, api.MaxScore},
		{"at 1 by MaxScore", []int64{1, api.MaxScore}, api.MaxScore},
		{"as often as 64 bits would begin anew", slices.Repeat([]int64{api.MaxScore}, 40), api.MaxScore},
	} {
		for _, waits := range []bool{true, false} {
			r := rank.New(2)
			if !waits {
				order(r)
			}
			for _, by := range c.by {
				bump(t, r, 2, by)
			}
			if r.Score(2) != c.want || r.Score(1) != 0 || r.Waits(2) != waits || r.Waits(1) != waits {
				t.Error(c.name, r.Score(2), r.Score(1), r.Waits(2), r.Waits(1))
			}
		}
	}
}

func TestBumpOfWhatCanNotBe(t *testing.T) {
	const vars = 3
	r, p := rank.New(vars), newPlain(vars)
	unchanged := func(v int, by int64) {
		if err := r.Bump(v, by); err != api.ErrRank {
			t.Error(v, by, err)
		}
		is(t, r, p)
	}
	bump(t, r, 3, 2)
	p.bump(3, 2)
	bump(t, r, 2, api.MaxScore)
	p.bump(2, api.MaxScore)
	r.Pop()
	p.pop()
	wrong := []int64{-1, -2, -api.MaxScore, math.MinInt64, api.MaxScore + 1, 2 * api.MaxScore, math.MaxInt64}
	for _, by := range wrong {
		for v := 1; v <= vars; v++ {
			unchanged(v, by)
		}
	}
	for _, v := range none(vars) {
		for _, by := range append(wrong, 0, 1, api.MaxScore) {
			unchanged(v, by)
		}
	}
	pops(t, r, 3, 1)
}

func TestBumpOfNone(t *testing.T) {
	r := rank.New(0)
	for _, v := range none(0) {
		if r.Bump(v, 1) != api.ErrRank || r.Push(v) != api.ErrRank {
			t.Error(v)
		}
	}
	is(t, r, newPlain(0))
}

func TestHalve(t *testing.T) {
	r := rank.New(9)
	for i, by := range []int64{0, 1, 2, 3, 4, 5, 7, api.MaxScore - 1, api.MaxScore} {
		bump(t, r, i+1, by)
	}
	for _, v := range []int{9, 8} {
		if got, ok := r.Pop(); got != v || !ok {
			t.Error("Pop", got, ok)
		}
	}
	for _, want := range [][]int64{
		{0, 0, 1, 1, 2, 2, 3, 1<<59 - 1, 1 << 59},
		{0, 0, 0, 0, 1, 1, 1, 1<<58 - 1, 1 << 58},
		{0, 0, 0, 0, 0, 0, 0, 1<<57 - 1, 1 << 57},
	} {
		r.Halve()
		for i, score := range want {
			if r.Score(i+1) != score {
				t.Error(i+1, r.Score(i+1), score)
			}
		}
	}
	if r.Vars() != 9 || r.Len() != 7 || r.Waits(8) || r.Waits(9) {
		t.Error(r.Vars(), r.Len(), r.Waits(8), r.Waits(9))
	}
	pops(t, r, 1, 2, 3, 4, 5, 6, 7)
	empty := rank.New(0)
	empty.Halve()
	is(t, empty, newPlain(0))
}

func TestHalveMakesScoresEqual(t *testing.T) {
	r := rank.New(6)
	for v, by := range []int64{2, 4, 3, 5, 2, 3} {
		bump(t, r, v+1, by)
	}
	r.Halve()
	pops(t, r, 2, 4, 1, 3, 5, 6)
}

// P3.3

func TestTheChaptersExample(t *testing.T) {
	r := rank.New(3)
	bump(t, r, 2, 5)
	for _, want := range []int{2, 1} {
		if v, ok := r.Pop(); v != want || !ok || r.Waits(want) {
			t.Error(v, ok, want)
		}
	}
	if r.Len() != 1 || !r.Waits(3) || r.Score(2) != 5 {
		t.Error(r.Len(), r.Waits(3), r.Score(2))
	}
}

func TestPopWithEqualScores(t *testing.T) {
	for _, by := range []int64{0, 1, api.MaxScore} {
		r := rank.New(12)
		for v := 12; v > 0; v-- {
			bump(t, r, v, by)
		}
		pops(t, r, 1, 2, 3, 4, 5, 6, 7, 8, 9, 10, 11, 12)
		for _, v := range []int{7, 12, 1, 9, 3} {
			push(t, r, v)
		}
		pops(t, r, 1, 3, 7, 9, 12)
	}
	r := rank.New(4)
	bump(t, r, 4, api.MaxScore)
	bump(t, r, 3, 1)
	bump(t, r, 3, api.MaxScore)
	bump(t, r, 2, api.MaxScore-1)
	pops(t, r, 3, 4, 2, 1)
}

func TestPopOfGreatScores(t *testing.T) {
	r := rank.New(5)
	for v, by := range []int64{1, 1 << 31, 1 << 32, 1<<53 + 1, 1 << 53} {
		bump(t, r, v+1, by)
	}
	pops(t, r, 4, 5, 3, 2, 1)
}

func TestPopOfNone(t *testing.T) {
	for _, vars := range []int{0, 1, 4} {
		r, p := rank.New(vars), newPlain(vars)
		for range vars {
			r.Pop()
			p.pop()
		}
		for range 3 {
			if v, ok := r.Pop(); v != 0 || ok {
				t.Error(vars, v, ok)
			}
			is(t, r, p)
		}
	}
}

func TestPushOfOneThatWaits(t *testing.T) {
	r, p := rank.New(3), newPlain(3)
	bump(t, r, 2, 1)
	p.bump(2, 1)
	for _, v := range []int{1, 2, 3, 3, 1, 2} {
		push(t, r, v)
		is(t, r, p)
	}
	pops(t, r, 2, 1, 3)
}

func TestPushOfOneThatWasTaken(t *testing.T) {
	r := rank.New(4)
	bump(t, r, 3, 2)
	pops(t, r, 3, 1, 2, 4)
	push(t, r, 1)
	push(t, r, 3)
	push(t, r, 3)
	if r.Score(3) != 2 || r.Len() != 2 || r.Waits(2) || r.Waits(4) {
		t.Error(r.Score(3), r.Len(), r.Waits(2), r.Waits(4))
	}
	bump(t, r, 4, 3)
	bump(t, r, 1, 1)
	push(t, r, 4)
	pops(t, r, 4, 3, 1)
}

func TestPushOfWhatCanNotBe(t *testing.T) {
	const vars = 3
	r, p := rank.New(vars), newPlain(vars)
	for range vars + 1 {
		for _, v := range none(vars) {
			if err := r.Push(v); err != api.ErrRank {
				t.Error(v, err)
			}
			is(t, r, p)
		}
		r.Pop()
		p.pop()
	}
}

// Of all three promises: what is done in any order.

// both does one and the same to a Rank and to what says it once more from the words.
type both struct {
	t *testing.T
	r *rank.Rank
	p *plain
}

func (b both) bump(v int, by int64) {
	b.p.bump(v, by)
	bump(b.t, b.r, v, by)
}

func (b both) push(v int) {
	b.p.waits[v] = true
	push(b.t, b.r, v)
}

func (b both) pop() bool {
	b.t.Helper()
	want := b.p.pop()
	v, ok := b.r.Pop()
	if v != want || ok != (want > 0) {
		b.t.Fatal("Pop", v, ok, want)
	}
	return ok
}

func (b both) halve() {
	b.p.halve()
	b.r.Halve()
}

func (b both) grow() {
	b.t.Helper()
	if v, want := b.r.Grow(), b.p.grow(); v != want {
		b.t.Fatal("Grow", v, want)
	}
}

func (b both) drain() {
	b.t.Helper()
	for b.pop() {
	}
	is(b.t, b.r, b.p)
}

func TestAllShortOrdersOfCalls(t *testing.T) {
	calls := []func(b both){
		func(b both) { b.bump(1, 1) },
		func(b both) { b.bump(2, 2) },
		func(b both) { b.bump(3, 3) },
		func(b both) { b.bump(3, api.MaxScore) },
		func(b both) { b.push(1) },
		func(b both) { b.push(3) },
		func(b both) { b.pop() },
		func(b both) { b.halve() },
		func(b both) { b.grow() },
	}
	const deep = 5
	var follow func(chosen []int)
	follow = func(chosen []int) {
		b := both{t, rank.New(3), newPlain(3)}
		for _, c := range chosen {
			calls[c](b)
		}
		is(t, b.r, b.p)
		b.drain()
		if len(chosen) == deep {
			return
		}
		for c := range calls {
			follow(append(slices.Clone(chosen), c))
		}
	}
	follow(nil)
}

func TestLongOrdersOfCalls(t *testing.T) {
	for seed := range uint64(30) {
		b := both{t, rank.New(int(seed) * 3), newPlain(int(seed) * 3)}
		state := seed
		next := func(below int) int {
			state = state*6364136223846793005 + 1442695040888963407
			return int(state >> 33 % uint64(below))
		}
		b.grow()
		for range 2000 {
			v := 1 + next(b.r.Vars())
			switch next(20) {
			case 0:
				b.grow()
			case 1:
				b.halve()
			case 2, 3, 4, 5, 6:
				b.push(v)
			case 7, 8, 9, 10, 11, 12:
				b.pop()
			default:
				b.bump(v, int64(next(9)))
			}
			if b.r.Len() == 0 {
				is(t, b.r, b.p)
			}
		}
		is(t, b.r, b.p)
		b.drain()
	}
}

func TestAskingChangesNothing(t *testing.T) {
	b := both{t, rank.New(5), newPlain(5)}
	b.bump(4, 2)
	b.bump(2, 3)
	b.pop()
	for range 3 {
		for v := -1; v < 8; v++ {
			b.r.Score(v)
			b.r.Waits(v)
		}
		b.r.Len()
		b.r.Vars()
		is(t, b.r, b.p)
	}
	b.drain()
}

func TestRanksShareNothing(t *testing.T) {
	one, other := both{t, rank.New(4), newPlain(4)}, both{t, rank.New(4), newPlain(4)}
	one.bump(3, 5)
	one.pop()
	one.grow()
	other.bump(2, 7)
	other.pop()
	other.pop()
	one.halve()
	one.push(3)
	is(t, one.r, one.p)
	is(t, other.r, other.p)
	one.drain()
	other.drain()
}
