package trail_test

import (
	"math"
	"slices"
	"testing"

	"lariat/api"
	"lariat/trail"
)

// entry is a literal that is true, as the words tell of it.
type entry struct {
	l             api.Lit
	level, reason int
}

// plain says once more, from the words, what a Trail is.
type plain struct {
	vars, depth int
	entries     []entry
}

func (p *plain) find(v int) (entry, bool) {
	for _, x := range p.entries {
		if x.l == api.Lit(v) || x.l == api.Lit(-v) {
			return x, true
		}
	}
	return entry{level: -1, reason: -1}, false
}

func (p *plain) value(l api.Lit) int {
	for _, x := range p.entries {
		switch l {
		case x.l:
			return 1
		case -x.l:
			return -1
		}
	}
	return 0
}

func (p *plain) refused(l api.Lit) api.Errno {
	v := max(int(l), -int(l))
	if v < 1 || v > p.vars {
		return api.ErrTrail
	}
	if _, ok := p.find(v); ok {
		return api.ErrSet
	}
	return api.OK
}

func (p *plain) set(l api.Lit, reason int) api.Errno {
	err := p.refused(l)
	if err == api.OK {
		p.entries = append(p.entries, entry{l, p.depth, reason})
	}
	return err
}

func (p *plain) decide(l api.Lit) api.Errno {
	err := p.refused(l)
	if err == api.OK {
		p.depth++
		p.entries = append(p.entries, entry{l, p.depth, -1})
	}
	return err
}

func (p *plain) back(level int) ([]api.Lit, api.Errno) {
	if level < 0 || level > p.depth {
		return nil, api.ErrTrail
	}
	var undone []api.Lit
	var rest []entry
	for _, x := range p.entries {
		if x.level > level {
			undone = append([]api.Lit{x.l}, undone...)
		} else {
			rest = append(rest, x)
		}
	}
	p.entries, p.depth = rest, level
	return undone, api.OK
}

// both does one and the same to a Trail and to what says it once more from the words.
type both struct {
	t *testing.T
	x *trail.Trail
	p *plain
}

func begin(t *testing.T, vars int) both {
	return both{t, trail.New(vars), &plain{vars: min(max(vars, 0), api.MaxVars)}}
}

func (b both) grow() {
	b.t.Helper()
	want := 0
	if b.p.vars < api.MaxVars {
		b.p.vars++
		want = b.p.vars
	}
	if v := b.x.Grow(); v != want {
		b.t.Fatal("Grow", v, want)
	}
}

func (b both) set(l api.Lit, reason int) {
	b.t.Helper()
	if err, want := b.x.Set(l, reason), b.p.set(l, reason); err != want {
		b.t.Fatal("Set", l, reason, err, want)
	}
}

func (b both) decide(l api.Lit) {
	b.t.Helper()
	if err, want := b.x.Decide(l), b.p.decide(l); err != want {
		b.t.Fatal("Decide", l, err, want)
	}
}

func (b both) back(level int) {
	b.t.Helper()
	undone, err := b.x.Back(level)
	want, wantErr := b.p.back(level)
	if !slices.Equal(undone, want) || err != wantErr {
		b.t.Fatal("Back", level, undone, want, err, wantErr)
	}
}

// is holds a Trail against what it should be.
func (b both) is() {
	b.t.Helper()
	if b.x.Vars() != b.p.vars || b.x.Depth() != b.p.depth || b.x.Len() != len(b.p.entries) {
		b.t.Fatal("Vars", b.x.Vars(), b.p.vars, "Depth", b.x.Depth(), b.p.depth, "Len", b.x.Len(), len(b.p.entries))
	}
	for i, x := range b.p.entries {
		if b.x.At(i) != x.l {
			b.t.Fatal("At", i, b.x.At(i), x.l)
		}
	}
	for v := -b.p.vars - 2; v <= b.p.vars+2; v++ {
		if got, want := b.x.Value(api.Lit(v)), b.p.value(api.Lit(v)); got != want {
			b.t.Fatal("Value", v, got, want)
		}
		want, _ := b.p.find(max(v, 0))
		if b.x.Level(v) != want.level || b.x.Reason(v) != want.reason {
			b.t.Fatal("variable", v, "Level", b.x.Level(v), want.level, "Reason", b.x.Reason(v), want.reason)
		}
	}
	for _, i := range []int{-1, -2, math.MinInt, b.x.Len(), b.x.Len() + 1, 1 << 32, math.MaxInt} {
		if b.x.At(i) != 0 {
			b.t.Fatal("At", i, b.x.At(i))
		}
	}
}

// noLits is what is no literal of so many variables.
func noLits(vars int) []api.Lit {
	return []api.Lit{
		0, api.Lit(vars + 1), api.Lit(-vars - 1), api.Lit(vars + 2), api.Lit(-vars - 2),
		api.MaxVars + 1, -api.MaxVars - 1, math.MaxInt32, -math.MaxInt32, math.MinInt32,
	}
}

// noVars is what is no variable of so many.
func noVars(vars int) []int {
	return []int{
		0, -1, -2, -vars, vars + 1, vars + 2, api.MaxVars + 1, math.MinInt32, math.MaxInt32,
		1<<32 + 1, 1<<33 + 1, 1<<32 - 1, math.MinInt, math.MinInt + 1, math.MaxInt,
	}
}

// full is a Trail of six variables, of which all but the last one have values, three levels deep.
func full(t *testing.T) both {
	b := begin(t, 6)
	b.set(3, 0)
	b.decide(-1)
	b.set(2, 4)
	b.decide(5)
	b.decide(-4)
	return b
}

// P4.1

func TestNew(t *testing.T) {
	for _, c := range []struct{ in, vars int }{
		{0, 0}, {-1, 0}, {-2, 0}, {-api.MaxVars, 0}, {math.MinInt32, 0}, {math.MinInt, 0}, {math.MinInt + 5, 0},
		{1, 1}, {2, 2}, {7, 7}, {1000, 1000},
	} {
		x := trail.New(c.in)
		both{t, x, &plain{vars: c.vars}}.is()
	}
}

func TestNewOfAsManyAsMayBe(t *testing.T) {
	for _, vars := range []int{api.MaxVars, api.MaxVars + 1, 2 * api.MaxVars, math.MaxInt32, 1<<32 + 1, math.MaxInt} {
		b := begin(t, vars)
		b.is()
		b.grow()
		b.set(-api.MaxVars, 5)
		b.grow()
		b.set(api.MaxVars+1, 5)
		b.is()
	}
}

func TestGrow(t *testing.T) {
	for _, vars := range []int{-3, 0, 1, 5} {
		b := begin(t, vars)
		for range 100 {
			next := api.Lit(b.p.vars + 1)
			b.set(next, 1)
			b.decide(-next)
			b.grow()
			b.is()
		}
		b.decide(1)
		b.grow()
		b.set(-100, 3)
		b.grow()
		b.is()
		b.back(0)
		b.grow()
		b.is()
	}
}

func TestGrowAtTheLimit(t *testing.T) {
	b := begin(t, api.MaxVars-2)
	b.decide(-1)
	for range 5 {
		b.grow()
	}
	b.set(api.MaxVars, 2)
	b.grow()
	b.is()
}

func TestGrowKeepsWhatIsKnown(t *testing.T) {
	b := full(t)
	for range 50 {
		b.grow()
		b.is()
	}
	b.decide(-56)
	b.set(40, 8)
	b.is()
	b.back(1)
	b.is()
}

func TestAskingOfWhatThereIsNot(t *testing.T) {
	for _, vars := range []int{0, 1, 3, api.MaxVars} {
		x := trail.New(vars)
		for v := 1; v <= vars; v++ {
			if err := x.Set(api.Lit(v), v); err != api.OK {
				t.Fatal(vars, v, err)
			}
		}
		for _, l := range noLits(vars) {
			if x.Value(l) != 0 {
				t.Error(vars, "Value", l, x.Value(l))
			}
		}
		for _, v := range noVars(vars) {
			if x.Level(v) != -1 || x.Reason(v) != -1 {
				t.Error(vars, v, "Level", x.Level(v), "Reason", x.Reason(v))
			}
		}
		for _, i := range []int{-1, math.MinInt, vars, vars + 1, 1 << 32, 1<<32 + 1, math.MaxInt} {
			if x.At(i) != 0 {
				t.Error(vars, "At", i, x.At(i))
			}
		}
	}
}

func TestValueByBothSigns(t *testing.T) {
	x := trail.New(4)
	x.Set(2, 0)
	x.Decide(-3)
	for l, want := range map[api.Lit]int{1: 0, -1: 0, 2: 1, -2: -1, 3: -1, -3: 1, 4: 0, -4: 0, 5: 0, -5: 0} {
		if got := x.Value(l); got != want {
			t.Error(l, got, want)
		}
	}
}

// P4.2

func TestTheChaptersExample(t *testing.T) {
	x := trail.New(2)
	if x.Decide(-2) != api.OK || x.Set(1, 7) != api.OK {
		t.Error("Decide, Set")
	}
	if x.Value(2) != -1 || x.Level(1) != 1 || x.Reason(1) != 7 || x.Reason(2) != -1 {
		t.Error(x.Value(2), x.Level(1), x.Reason(1), x.Reason(2))
	}
	if undone, err := x.Back(0); !slices.Equal(undone, []api.Lit{1, -2}) || err != api.OK {
		t.Error(undone, err)
	}
}

func TestSetKeepsAnyReason(t *testing.T) {
	for _, reason := range []int{0, 1, -1, -2, -7, 1 << 32, -1 << 32, math.MaxInt, math.MinInt} {
		x := trail.New(3)
		if x.Set(-2, reason) != api.OK || x.Decide(3) != api.OK || x.Set(1, reason) != api.OK {
			t.Error("Set", reason)
		}
		for v, level := range map[int]int{1: 1, 2: 0} {
			if x.Reason(v) != reason || x.Level(v) != level {
				t.Error(v, reason, x.Reason(v), x.Level(v))
			}
		}
		if x.Reason(3) != -1 || x.Level(3) != 1 {
			t.Error(reason, x.Reason(3), x.Level(3))
		}
	}
}

func TestSetAndDecideOfWhatThereIsNot(t *testing.T) {
	for _, vars := range []int{0, 1, 6} {
		b := begin(t, vars)
		for range 3 {
			for _, l := range noLits(vars) {
				if err := b.x.Set(l, 3); err != api.ErrTrail {
					t.Error("Set", vars, l, err)
				}
				if err := b.x.Decide(l); err != api.ErrTrail {
					t.Error("Decide", vars, l, err)
				}
				b.is()
			}
			b.decide(1)
			b.set(-3, 2)
		}
	}
	b := begin(t, api.MaxVars)
	for _, l := range noLits(api.MaxVars) {
		if b.x.Set(l, 3) != api.ErrTrail || b.x.Decide(l) != api.ErrTrail {
			t.Error(l)
		}
	}
	b.is()
}

func TestSetAndDecideOfWhatHasAValue(t *testing.T) {
	b := full(t)
	for _, l := range []api.Lit{1, -1, 2, -2, 3, -3, 4, -4, 5, -5} {
		for _, reason := range []int{-1, 0, 4, 9} {
			if err := b.x.Set(l, reason); err != api.ErrSet {
				t.Error("Set", l, err)
			}
		}
		if err := b.x.Decide(l); err != api.ErrSet {
			t.Error("Decide", l, err)
		}
		b.is()
	}
	b.back(3)
	b.is()
	b.set(6, 1)
	b.is()
}

func TestLevelsRise(t *testing.T) {
	const vars = 200
	b := begin(t, vars)
	for v := api.Lit(1); v <= vars; v++ {
		l := v
		if v%3 == 0 {
			l = -v
		}
		if v%5 == 1 {
			b.decide(l)
		} else {
			b.set(l, int(v)*7)
		}
		b.is()
	}
	for i := 1; i < b.x.Len(); i++ {
		was, is := int(b.x.At(i-1)), int(b.x.At(i))
		if b.x.Level(max(was, -was)) > b.x.Level(max(is, -is)) {
			t.Error(i, was, is)
		}
	}
}

func TestAsDeepAsMayBe(t *testing.T) {
	x := trail.New(api.MaxVars)
	for v := api.Lit(1); v <= api.MaxVars; v++ {
		if err := x.Decide(-v); err != api.OK || x.Depth() != int(v) {
			t.Fatal(v, err, x.Depth())
		}
	}
	for v := 1; v <= api.MaxVars; v++ {
		if x.Level(v) != v || x.Reason(v) != -1 || x.Value(api.Lit(v)) != -1 || x.At(v-1) != api.Lit(-v) {
			t.Fatal(v, x.Level(v), x.Reason(v), x.At(v-1))
		}
	}
	if undone, err := x.Back(1); len(undone) != api.MaxVars-1 || undone[0] != -api.MaxVars || err != api.OK {
		t.Error(len(undone), err)
	}
	if x.Depth() != 1 || x.Len() != 1 || x.Value(-1) != 1 || x.Value(2) != 0 {
		t.Error(x.Depth(), x.Len(), x.Value(-1), x.Value(2))
	}
}

// P4.3

func TestBackToEachLevel(t *testing.T) {
	for level, want := range [][]api.Lit{{-4, 5, 2, -1}, {-4, 5}, {-4}, nil} {
		b := full(t)
		undone, err := b.x.Back(level)
		if !slices.Equal(undone, want) || err != api.OK {
			t.Error(level, undone, err)
		}
		b.p.back(level)
		b.is()
		b.back(level)
		b.is()
	}
}

func TestBackToALevelThatThereIsNot(t *testing.T) {
	for _, deep := range []int{0, 1, 4} {
		b := begin(t, 5)
		b.set(-5, 1)
		for v := api.Lit(1); v <= api.Lit(deep); v++ {
			b.decide(v)
		}
		for _, level := range []int{-1, -2, deep + 1, deep + 2, 1 << 32, 1<<32 + 1, -1 << 32, math.MinInt, math.MaxInt} {
			if undone, err := b.x.Back(level); len(undone) != 0 || err != api.ErrTrail {
				t.Error(deep, level, undone, err)
			}
			b.is()
		}
	}
}

func TestBackToZeroKeepsWhatWasSetThere(t *testing.T) {
	b := begin(t, 4)
	b.back(0)
	b.set(2, 5)
	b.set(-4, -6)
	b.back(0)
	b.is()
	b.decide(3)
	b.set(1, 0)
	b.back(0)
	b.is()
	b.set(-1, 8)
	b.set(-3, 9)
	b.is()
	b.back(0)
	b.is()
}

func TestBackAndOnByOtherValues(t *testing.T) {
	b := full(t)
	b.back(1)
	b.set(4, 11)
	b.is()
	b.decide(-6)
	b.set(-5, 12)
	b.is()
	b.back(0)
	b.decide(6)
	b.set(1, 13)
	b.decide(-2)
	b.is()
	b.back(1)
	b.back(0)
	b.is()
}

func TestWhatIsUndoneIsACopy(t *testing.T) {
	b := full(t)
	undone, _ := b.x.Back(0)
	b.p.back(0)
	for i := range undone[:cap(undone)] {
		undone[:cap(undone)][i] = 6
	}
	b.is()
	b = full(t)
	undone, _ = b.x.Back(1)
	b.p.back(1)
	kept := slices.Clone(undone)
	_ = append(undone, 6, 6, 6)
	b.is()
	b.set(6, 1)
	b.decide(-5)
	b.set(4, 2)
	b.is()
	if !slices.Equal(undone, kept) {
		t.Error(undone, kept)
	}
	other, _ := b.x.Back(0)
	b.p.back(0)
	for i := range other {
		other[i] = 1
	}
	if !slices.Equal(undone, kept) {
		t.Error(undone, kept)
	}
	b.is()
}

// Of all three promises: what is done in any order.

func TestAllShortOrdersOfCalls(t *testing.T) {
	calls := []func(b both){
		func(b both) { b.set(1, 4) },
		func(b both) { b.set(-2, -3) },
		func(b both) { b.set(4, 1) },
		func(b both) { b.decide(2) },
		func(b both) { b.decide(-3) },
		func(b both) { b.decide(4) },
		func(b both) { b.grow() },
		func(b both) { b.back(0) },
		func(b both) { b.back(1) },
		func(b both) { b.back(2) },
	}
	const deep = 5
	var follow func(chosen []int)
	follow = func(chosen []int) {
		b := begin(t, 3)
		for _, c := range chosen {
			calls[c](b)
		}
		b.is()
		if len(chosen) == deep {
			return
		}
		for c := range calls {
			follow(append(slices.Clone(chosen), c))
		}
	}
	follow(nil)
}

func TestLongOrdersOfCalls(t *testing.T) {
	for seed := range uint64(30) {
		b := begin(t, int(seed)*2)
		state := seed
		next := func(below int) int {
			state = state*6364136223846793005 + 1442695040888963407
			return int(state >> 33 % uint64(below))
		}
		b.grow()
		for range 1000 {
			l := api.Lit(next(b.p.vars+2)) * api.Lit(1-2*next(2))
			switch next(10) {
			case 0:
				b.grow()
			case 1:
				b.back(next(b.p.depth+3) - 1)
			case 2, 3, 4:
				b.decide(l)
			default:
				b.set(l, next(9)-2)
			}
			b.is()
		}
	}
}

func TestAskingChangesNothing(t *testing.T) {
	b := full(t)
	for range 3 {
		b.is()
	}
	b.decide(6)
	b.is()
	b.back(2)
	b.is()
}

func TestTrailsShareNothing(t *testing.T) {
	one, other := begin(t, 4), begin(t, 4)
	one.decide(3)
	other.set(-3, 2)
	one.set(1, 7)
	other.decide(2)
	one.grow()
	other.decide(-1)
	one.back(0)
	one.is()
	other.is()
}
