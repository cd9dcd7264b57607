package pace_test

import (
	"math"
	"math/rand/v2"
	"slices"
	"testing"

	"lariat/api"
	"lariat/pace"
)

// wide is numbers from end to end of 64 bits.
func wide() []int {
	return []int{
		math.MinInt, math.MinInt + 1, -1 << 62, -1<<32 - 1, -1 << 32, math.MinInt32, -api.MaxPace, -10, -2, -1, 0, 1, 2, 3, 9, 10, 11,
		api.MaxPace - 1, api.MaxPace, api.MaxPace + 1, 2 * api.MaxPace, math.MaxInt32, 1 << 32, 1<<32 + 1, 1<<33 + 3,
		1 << 62, math.MaxInt - 1, math.MaxInt,
	}
}

// is holds a Pace against what it should be.
func is(t *testing.T, p *pace.Pace, q *plain) {
	t.Helper()
	if p.Conflicts() != len(q.all) || p.Restarts() != q.often {
		t.Fatal("Conflicts", p.Conflicts(), len(q.all), "Restarts", p.Restarts(), q.often)
	}
	edge := q.reduce + len(q.all)/10
	for _, learnt := range append(wide(), edge-2, edge-1, edge, edge+1, edge+2) {
		if n, want := p.Forget(learnt), q.forget(learnt); n != want {
			t.Fatal("Forget", learnt, n, want, "after", len(q.all))
		}
	}
}

// conflicts is so many of them, each held against what it should answer.
func conflicts(t *testing.T, p *pace.Pace, q *plain, many int) {
	t.Helper()
	for range many {
		if anew, want := p.Conflict(), q.conflict(); anew != want {
			t.Fatal("Conflict", len(q.all), anew, want)
		}
	}
}

// anews is at which of so many conflicts it began anew.
func anews(p *pace.Pace, many int) []int {
	var at []int
	for k := 1; k <= many; k++ {
		if p.Conflict() {
			at = append(at, k)
		}
	}
	return at
}

// P7.1

func TestLuby(t *testing.T) {
	want := []int{
		1, 1, 2, 1, 1, 2, 4, 1, 1, 2, 1, 1, 2, 4, 8,
		1, 1, 2, 1, 1, 2, 4, 1, 1, 2, 1, 1, 2, 4, 8, 16, 1,
	}
	for i, n := range want {
		if got, err := pace.Luby(i + 1); got != n || err != api.OK {
			t.Error(i+1, got, n, err)
		}
	}
}

func TestLubyOfAllPlaces(t *testing.T) {
	for i, want := range lubys(api.MaxPace) {
		n, err := pace.Luby(i + 1)
		if n != want || n != literally(i+1) || err != api.OK {
			t.Fatal(i+1, n, want, literally(i+1), err)
		}
	}
}

func TestLubyAtPowersOfTwo(t *testing.T) {
	for k := 1; k <= 20; k++ {
		power := 1 << k
		if n, err := pace.Luby(power - 1); n != power/2 || err != api.OK {
			t.Error("2 to the power of", k, "less one", n, err)
		}
		if n, err := pace.Luby(power); n != 1 || err != api.OK {
			t.Error("2 to the power of", k, n, err)
		}
	}
	for k := 2; k <= 20; k++ {
		power := 1 << k
		if n, err := pace.Luby(power - 2); n != power/4 || err != api.OK {
			t.Error("2 to the power of", k, "less two", n, err)
		}
	}
}

// The limit.

func TestLubyOfNoPlace(t *testing.T) {
	for _, i := range wide() {
		n, err := pace.Luby(i)
		if in := i >= 1 && i <= 1048576; in != (err == api.OK) || in != (n != 0) || !in && err != api.ErrPace {
			t.Error(i, n, err)
		}
	}
	for k := range 63 {
		for _, i := range []int{-1 << k, -1<<k - 1, -1<<k + 1, 1<<k - 1, 1 << k, 1<<k + 1} {
			n, err := pace.Luby(i)
			if in := i >= 1 && i <= 1048576; in && (n < 1 || err != api.OK) || !in && (n != 0 || err != api.ErrPace) {
				t.Error(i, n, err)
			}
		}
	}
}

func TestTheNumbersOfTheErrorAndTheLimit(t *testing.T) {
	if n, err := pace.Luby(1048576); n != 1 || err != 0 {
		t.Error(n, err)
	}
	if n, err := pace.Luby(1048577); n != 0 || err != 71 {
		t.Error(n, err)
	}
	if n, err := pace.Luby(0); n != 0 || err != 71 {
		t.Error(n, err)
	}
}

// P7.2

func TestNewHasNoConflicts(t *testing.T) {
	for _, unit := range wide() {
		for _, reduce := range wide() {
			o := api.Options{Seed: uint64(unit), Unit: unit, Reduce: reduce}
			is(t, pace.New(o), newPlain(o, nil))
		}
	}
}

func TestConflict(t *testing.T) {
	for _, c := range []struct {
		unit, many int
		want       []int
	}{
		{1, 20, []int{1, 2, 4, 5, 6, 8, 12, 13, 14, 16, 17, 18, 20}},
		{2, 24, []int{2, 4, 8, 10, 12, 16, 24}},
		{3, 24, []int{3, 6, 12, 15, 18, 24}},
		{10, 45, []int{10, 20, 40}},
		{10, 9, nil},
		{10, 10, []int{10}},
		{100, 500, []int{100, 200, 400, 500}},
		{0, 8, []int{1, 2, 4, 5, 6, 8}},
		{-1, 8, []int{1, 2, 4, 5, 6, 8}},
		{-7, 8, []int{1, 2, 4, 5, 6, 8}},
		{math.MinInt, 8, []int{1, 2, 4, 5, 6, 8}},
		{-1 << 32, 8, []int{1, 2, 4, 5, 6, 8}},
		{5, 0, nil},
	} {
		p := pace.New(api.Options{Unit: c.unit})
		if at := anews(p, c.many); !slices.Equal(at, c.want) {
			t.Error(c.unit, at, c.want)
		}
		if p.Conflicts() != c.many || p.Restarts() != len(c.want) {
			t.Error(c.unit, "Conflicts", p.Conflicts(), "Restarts", p.Restarts())
		}
	}
}

func TestConflictOfTheGreatestUnit(t *testing.T) {
	want := []int{1048576, 2097152, 4194304, 5242880}
	for _, unit := range []int{api.MaxPace, api.MaxPace + 1, 2 * api.MaxPace, 1 << 32, 1<<32 + 1, 1 << 62, math.MaxInt} {
		p := pace.New(api.Options{Unit: unit})
		if at := anews(p, 5*1048576); !slices.Equal(at, want) {
			t.Error(unit, at)
		}
	}
	if at := anews(pace.New(api.Options{Unit: api.MaxPace - 1}), 4*1048576); !slices.Equal(at, []int{1048575, 2097150, 4194300}) {
		t.Error(at)
	}
}

func TestConflictHoldsTheWords(t *testing.T) {
	numbers := lubys(1 << 12)
	for _, unit := range []int{math.MinInt, -5, 0, 1, 2, 3, 7, 10, 64, 99, 1000} {
		for _, reduce := range []int{math.MinInt, -1, 0, 1, 2, 5, 10, 777, math.MaxInt} {
			o := api.Options{Seed: 5, Unit: unit, Reduce: reduce}
			p, q := pace.New(o), newPlain(o, numbers)
			for range 60 {
				conflicts(t, p, q, 1)
				is(t, p, q)
			}
			for range 20 {
				conflicts(t, p, q, 200)
				is(t, p, q)
			}
		}
	}
}

// Beyond MaxPace times the number is that of MaxPace, 1, again and again.
func TestConflictBeyondTheLimitOfLuby(t *testing.T) {
	numbers := lubys(api.MaxPace)
	o := api.Options{Unit: 1, Reduce: 4}
	p, q := pace.New(o), newPlain(o, numbers)
	sum := 0
	for _, n := range numbers {
		sum += n
	}
	conflicts(t, p, q, sum)
	if p.Restarts() != api.MaxPace {
		t.Fatal("Restarts", p.Restarts())
	}
	is(t, p, q)
	for range 1000 {
		if !p.Conflict() || !q.conflict() {
			t.Fatal("Conflict", p.Conflicts())
		}
	}
	is(t, p, q)
	if p.Restarts() != api.MaxPace+1000 || p.Conflicts() != sum+1000 {
		t.Error("Restarts", p.Restarts(), "Conflicts", p.Conflicts())
	}
}

func TestForget(t *testing.T) {
	for _, c := range []struct {
		reduce, conflicts, learnt, want int
	}{
		{10, 0, 9, 0},
		{10, 0, 10, 5},
		{10, 0, 11, 5},
		{10, 0, 12, 6},
		{10, 9, 10, 5},
		{10, 10, 10, 0},
		{10, 10, 11, 5},
		{10, 19, 10, 0},
		{10, 19, 11, 5},
		{10, 20, 11, 0},
		{10, 20, 12, 6},
		{10, 1000, 109, 0},
		{10, 1000, 110, 55},
		{10, 0, 0, 0},
		{10, 0, -1, 0},
		{10, 0, -10, 0},
		{10, 0, -11, 0},
		{10, 0, math.MinInt, 0},
		{10, 1000, math.MinInt, 0},
		{10, 0, math.MaxInt, math.MaxInt / 2},
		{10, 1000, math.MaxInt, math.MaxInt / 2},
		{1, 0, 0, 0},
		{1, 0, 1, 0},
		{1, 0, 2, 1},
		{1, 0, 3, 1},
		{0, 0, 0, 0},
		{0, 0, 2, 1},
		{0, 10, 1, 0},
		{0, 10, 2, 1},
		{0, 20, 2, 0},
		{0, 20, 3, 1},
		{-5, 0, 2, 1},
		{-5, 20, 2, 0},
		{-5, 0, -4, 0},
		{math.MinInt, 0, -2, 0},
		{math.MinInt, 0, 2, 1},
		{math.MinInt, 20, 2, 0},
		{1048575, 0, 1048574, 0},
		{1048575, 0, 1048575, 524287},
		{1048576, 0, 1048575, 0},
		{1048576, 0, 1048576, 524288},
		{1048577, 0, 1048575, 0},
		{1048577, 0, 1048576, 524288},
		{1048577, 10, 1048576, 0},
		{1048577, 10, 1048577, 524288},
		{1 << 32, 0, 1048576, 524288},
		{1 << 32, 0, 1048575, 0},
		{math.MaxInt, 0, 1048575, 0},
		{math.MaxInt, 0, 1048576, 524288},
		{math.MaxInt, 100, 1048585, 0},
		{math.MaxInt, 100, 1048586, 524293},
	} {
		p := pace.New(api.Options{Unit: 4, Reduce: c.reduce})
		anews(p, c.conflicts)
		if n := p.Forget(c.learnt); n != c.want {
			t.Error(c, n)
		}
	}
}

// A tenth is of all conflicts, not of those since it began anew.
func TestForgetCountsAllConflicts(t *testing.T) {
	for _, unit := range []int{1, 10, 1000} {
		p := pace.New(api.Options{Unit: unit, Reduce: 1})
		anews(p, 100)
		if p.Forget(10) != 0 || p.Forget(11) != 5 {
			t.Error(unit, p.Forget(10), p.Forget(11))
		}
	}
}

func TestAskingChangesNothing(t *testing.T) {
	numbers := lubys(1 << 10)
	for seed := range 200 {
		chance := rand.New(rand.NewPCG(uint64(seed), 7))
		o := api.Options{Seed: chance.Uint64(), Unit: chance.IntN(8) - 2, Reduce: chance.IntN(20) - 4}
		p, q := pace.New(o), newPlain(o, numbers)
		for range 200 {
			switch chance.IntN(6) {
			case 0:
				p.Forget(chance.IntN(100) - 10)
			case 1:
				pace.Luby(chance.IntN(2*api.MaxPace) - 10)
			case 2:
				pace.First(chance.Uint64(), chance.Int())
			case 3:
				is(t, p, q)
			default:
				conflicts(t, p, q, 1)
			}
		}
		is(t, p, q)
	}
}

// Neither one Pace nor its options change another.
func TestEachPaceByItself(t *testing.T) {
	numbers := lubys(1 << 10)
	o := api.Options{Seed: 9, Unit: 3, Reduce: 2}
	p, q := pace.New(o), newPlain(o, numbers)
	conflicts(t, p, q, 5)
	o.Unit, o.Reduce = 1, 50
	other, another := pace.New(o), newPlain(o, numbers)
	conflicts(t, other, another, 33)
	is(t, p, q)
	conflicts(t, p, q, 40)
	is(t, other, another)
	is(t, p, q)
}

func TestTheSeedDoesNotSayWhen(t *testing.T) {
	want := anews(pace.New(api.Options{Unit: 3}), 500)
	for _, seed := range []uint64{1, 2, 12345, 1 << 63, math.MaxUint64} {
		if at := anews(pace.New(api.Options{Seed: seed, Unit: 3}), 500); !slices.Equal(at, want) {
			t.Error(seed, at)
		}
	}
}

// P7.3

func TestFirst(t *testing.T) {
	for _, c := range []struct {
		seed uint64
		v    int
		want bool
	}{
		{0, 0, false},
		{0, 1, false},
		{0, -1, false},
		{0, 7, false}, // 7 times the second number has the highest bit, but the seed is 0
		{1, 0, false}, // 6364136223846793005 is below 2 to the power of 63
		{1, 1, false}, // 7806831264735756412 too
		{1, 2, true},  // 9249526305624719819 isn't
		{2, 0, true},
		{3, 0, false}, // 19092408671540379015 begins anew, at 645664597830827399
		{1, -1, false},
		{1, -4, false}, // 593356060290939377
		{1, -5, true},  // -849338980598024030 begins anew, at 17597405093111527586
		{1 << 63, 0, true},
		{1 << 63, 1, true},
		{1 << 63, 7, false},
		{math.MaxUint64, 0, true},
	} {
		if got := pace.First(c.seed, c.v); got != c.want || got != first(c.seed, c.v) {
			t.Error(c, got, first(c.seed, c.v))
		}
	}
}

func TestFirstOfAllKinds(t *testing.T) {
	seeds := []uint64{0, 1, 2, 3, 12345, 1 << 31, 1 << 32, 1 << 62, 1<<63 - 1, 1 << 63, 1<<63 + 1, math.MaxUint64 - 1, math.MaxUint64}
	chance := rand.New(rand.NewPCG(7, 7))
	for range 200 {
		seeds = append(seeds, chance.Uint64())
	}
	for _, seed := range seeds {
		for _, v := range wide() {
			if got, want := pace.First(seed, v), first(seed, v); got != want {
				t.Error(seed, v, got)
			}
		}
		for range 50 {
			v := int(chance.Uint64())
			if got, want := pace.First(seed, v), first(seed, v); got != want {
				t.Error(seed, v, got)
			}
		}
		for v := 1; v <= 50; v++ {
			if got, want := pace.First(seed, v), first(seed, v); got != want {
				t.Error(seed, v, got)
			}
		}
	}
}

func TestFirstOfSeedZero(t *testing.T) {
	for v := -1000; v <= 1000; v++ {
		if pace.First(0, v) {
			t.Error(v)
		}
	}
	for _, v := range wide() {
		if pace.First(0, v) {
			t.Error(v)
		}
	}
}
