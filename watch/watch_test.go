package watch_test

import (
	"math"
	"slices"
	"testing"

	"lariat/api"
	"lariat/watch"
)

// P5.1

func TestNew(t *testing.T) {
	for _, c := range []struct{ in, vars int }{
		{0, 0}, {-1, 0}, {-2, 0}, {-api.MaxVars, 0}, {math.MinInt32, 0}, {math.MinInt, 0},
		{1, 1}, {2, 2}, {7, 7}, {1000, 1000},
	} {
		b := both{t, watch.New(c.in), &plain{vars: c.vars}}
		b.is()
		b.settled()
		b.is()
	}
}

func TestNewOfAsManyAsMayBe(t *testing.T) {
	for _, vars := range []int{api.MaxVars, api.MaxVars + 1, math.MaxInt32, 1<<32 + 1, math.MaxInt} {
		x := watch.New(vars)
		if x.Vars() != api.MaxVars || x.Grow() != 0 || x.Vars() != api.MaxVars || x.Len() != 0 || len(x.True()) != 0 {
			t.Fatal(vars, x.Vars(), x.Len())
		}
		if _, err := x.Add(api.MaxVars + 1); err != api.ErrWatch {
			t.Error(vars, err)
		}
		if id, err := x.Add(-api.MaxVars); id != 0 || err != api.OK || x.Propagate() != -1 {
			t.Error(vars, id, err)
		}
		if x.Value(api.MaxVars) != -1 || x.Reason(api.MaxVars) != 0 || x.Level(api.MaxVars) != 0 {
			t.Error(vars, x.True())
		}
	}
}

func TestGrow(t *testing.T) {
	for _, vars := range []int{-3, 0, 1, 5} {
		b := begin(t, vars)
		b.add()
		b.remove(0)
		for range 40 {
			next := api.Lit(b.p.vars + 1)
			b.add(next)
			b.decide(-next)
			b.grow()
			b.add(-1, next)
			b.add(-next, next)
			b.settled()
			b.is()
		}
		// Of what came late by what was there ahead of it, and the other way.
		b.decide(1)
		b.settled()
		b.grow()
		last := api.Lit(b.p.vars)
		b.add(-1, -last)
		b.add(last, 1-last)
		b.conflict(len(b.p.clauses)-2, len(b.p.clauses)-1)
		b.back(0)
		b.settled()
		b.decide(last)
		b.settled()
		b.is()
		if b.x.Value(1) != -1 {
			t.Error(vars, b.x.True())
		}
		b.back(0)
		b.is()
	}
}

func TestGrowAtTheLimit(t *testing.T) {
	x := watch.New(api.MaxVars - 2)
	x.Decide(1)
	for _, want := range []int{api.MaxVars - 1, api.MaxVars, 0, 0} {
		if v := x.Grow(); v != want {
			t.Error(v, want)
		}
	}
	if id, err := x.Add(-1, -api.MaxVars); id != 0 || err != api.OK || x.Propagate() != -1 || x.Value(api.MaxVars) != -1 {
		t.Error(id, err, x.True())
	}
}

// full is an Engine three levels deep, with clauses of which most are reasons.
func full(t *testing.T) both {
	t.Helper()
	b := with(t, 9, []api.Lit{3}, []api.Lit{-1, -3, 4}, []api.Lit{-4, 2, 5}, []api.Lit{-5, 9, -6}, []api.Lit{7, -7}, []api.Lit{8, 9})
	b.settled()
	b.decide(1)
	b.settled()
	b.decide(-2)
	b.settled()
	b.decide(-9)
	b.settled()
	b.is()
	return b
}

func TestTheTrailsCallsAreItsOwn(t *testing.T) {
	b := full(t)
	if !slices.Equal(b.x.True(), []api.Lit{3, 1, 4, -2, 5, -9, -6, 8}) && !slices.Equal(b.x.True(), []api.Lit{3, 1, 4, -2, 5, -9, 8, -6}) {
		t.Error(b.x.True())
	}
	for _, c := range []struct{ v, value, level, reason int }{
		{1, 1, 1, -1}, {2, -1, 2, -1}, {3, 1, 0, 0}, {4, 1, 1, 1}, {5, 1, 2, 2}, {6, -1, 3, 3}, {7, 0, -1, -1}, {8, 1, 3, 5}, {9, -1, 3, -1},
	} {
		l := api.Lit(c.v)
		if b.x.Value(l) != c.value || b.x.Value(-l) != -c.value || b.x.Level(c.v) != c.level || b.x.Reason(c.v) != c.reason {
			t.Error(c, b.x.Value(l), b.x.Value(-l), b.x.Level(c.v), b.x.Reason(c.v))
		}
	}
	if b.x.Depth() != 3 || b.x.Len() != 6 || b.x.Vars() != 9 {
		t.Error(b.x.Depth(), b.x.Len(), b.x.Vars())
	}
}

func TestAskingOfWhatThereIsNot(t *testing.T) {
	b := full(t)
	for _, l := range noLits(9) {
		if b.x.Value(l) != 0 {
			t.Error("Value", l, b.x.Value(l))
		}
	}
	for _, v := range append(noNumbers(10), 0) {
		if b.x.Level(v) != -1 || b.x.Reason(v) != -1 {
			t.Error(v, "Level", b.x.Level(v), "Reason", b.x.Reason(v))
		}
	}
	for _, id := range noNumbers(6) {
		if lits, ok := b.x.Clause(id); len(lits) != 0 || ok {
			t.Error("Clause", id, lits, ok)
		}
	}
	b.is()
}

func TestClauseIsClean(t *testing.T) {
	b := begin(t, 6)
	for _, c := range []struct{ in, want []api.Lit }{
		{nil, nil},
		{[]api.Lit{5}, []api.Lit{5}},
		{[]api.Lit{-5, -5, -5}, []api.Lit{-5}},
		{[]api.Lit{3, -1, 3}, []api.Lit{-1, 3}},
		{[]api.Lit{-4, 4}, []api.Lit{4, -4}},
		{[]api.Lit{6, -2, 1, -6, 2, -2}, []api.Lit{1, 2, -2, 6, -6}},
	} {
		b.add(c.in...)
		if lits, ok := b.x.Clause(b.x.Len() - 1); !slices.Equal(lits, c.want) || !ok {
			t.Error(c.in, lits, ok)
		}
	}
	b.is()
}

func TestClauseStaysCleanWhateverIsWatched(t *testing.T) {
	b := with(t, 6, []api.Lit{6, -5, 4, -3, 2, -1})
	for _, l := range []api.Lit{1, -2, 5, -6, 3} {
		b.decide(l)
		b.settled()
		b.is()
	}
	if lits, ok := b.x.Clause(0); !slices.Equal(lits, []api.Lit{-1, 2, -3, 4, -5, 6}) || !ok || b.x.Reason(4) != 0 {
		t.Error(lits, ok, b.x.True())
	}
}

func TestClauseOfWhatWasRemoved(t *testing.T) {
	b := with(t, 3, []api.Lit{1, 2}, nil, []api.Lit{-3, 3})
	for id := range 3 {
		b.remove(id)
		if lits, ok := b.x.Clause(id); len(lits) != 0 || ok {
			t.Error(id, lits, ok)
		}
		b.is()
	}
	if b.x.Len() != 3 {
		t.Error(b.x.Len())
	}
	b.add(2)
	b.is()
}

func TestAnswersAreCopies(t *testing.T) {
	b := full(t)
	spoil := func(lits []api.Lit) {
		all := lits[:cap(lits)]
		for i := range all {
			all[i] = -7
		}
		_ = append(lits, 1, 2, 3)
	}
	spoil(b.x.True())
	b.is()
	for id := range b.x.Len() {
		lits, _ := b.x.Clause(id)
		spoil(lits)
		b.is()
	}
	was := b.x.True()
	b.back(0)
	b.decide(-1)
	b.settled()
	if len(was) != 8 || was[1] != 1 {
		t.Error(was)
	}
	b.is()
}

func TestWhatIsHandedInIsNotKept(t *testing.T) {
	b := begin(t, 5)
	room := []api.Lit{4, -2, 4, 1, -3, -3}
	handed := room[:4]
	b.add(handed...)
	if !slices.Equal(room, []api.Lit{4, -2, 4, 1, -3, -3}) {
		t.Error(room)
	}
	for i := range room {
		room[i] = 5
	}
	b.is()
	b.decide(-1)
	b.decide(2)
	b.settled()
	if b.x.Value(4) != 1 || b.x.Value(5) != 0 {
		t.Error(b.x.True())
	}
}

func TestEnginesShareNothing(t *testing.T) {
	one, other := with(t, 3, []api.Lit{1, 2}), with(t, 3, []api.Lit{-1, -2})
	one.decide(-1)
	other.decide(1)
	one.add(-2, 3)
	other.settled()
	one.settled()
	other.grow()
	one.remove(0)
	other.back(0)
	one.is()
	other.is()
}

// P5.2

func TestAddOfWhatIsNoLiteral(t *testing.T) {
	for _, vars := range []int{0, 1, 6} {
		b := begin(t, vars)
		for _, l := range noLits(vars) {
			for _, lits := range [][]api.Lit{{l}, {1, l}, {l, 1}, {-1, 1, l}, {l, l}, {1, l, -1}} {
				if id, err := b.x.Add(lits...); id != 0 || err != api.ErrWatch {
					t.Error(vars, lits, id, err)
				}
				b.is()
			}
		}
		b.settled()
		b.add()
		b.is()
	}
	b := full(t)
	for _, l := range noLits(9) {
		if id, err := b.x.Add(2, l, 9); id != 0 || err != api.ErrWatch {
			t.Error(l, id, err)
		}
	}
	b.is()
	b.settled()
	b.is()
}

func TestAddWaitsForPropagate(t *testing.T) {
	b := full(t)
	b.add(7)
	b.add(-1, 2, -7)
	b.is()
	b.conflict(6, 7)
	b.back(0)
	b.add(-7, 5)
	b.is()
	b.settled()
	if !slices.Contains(b.x.True(), 7) || b.x.Reason(5) != 8 {
		t.Error(b.x.True())
	}
	b.is()
}

func TestAddOfNoLiteral(t *testing.T) {
	b := begin(t, 2)
	b.add()
	if lits, ok := b.x.Clause(0); len(lits) != 0 || !ok {
		t.Error(lits, ok)
	}
	for range 3 {
		b.conflict(0)
		b.is()
	}
	b.decide(1)
	b.back(0)
	b.conflict(0)
	b.remove(0)
	b.settled()
	b.is()
	b.decide(1)
	b.settled()
	b.add()
	b.conflict(1)
	b.back(0)
	b.conflict(1)
	b.is()
}

func TestAddOfOneLiteral(t *testing.T) {
	b := begin(t, 3)
	b.add(-2)
	b.add(3, 3, 3)
	b.is()
	b.settled()
	b.is()
	if b.x.Reason(2) != 0 || b.x.Value(-2) != 1 || b.x.Reason(3) != 1 || b.x.Level(3) != 0 {
		t.Error(b.x.True())
	}
	b.back(0)
	b.is()
	b.settled()
	b.is()
}

func TestAddOfTheSameTwice(t *testing.T) {
	b := with(t, 3, []api.Lit{1, 2, 1, 2, 1}, []api.Lit{2, 1}, []api.Lit{3, 3})
	b.settled()
	b.decide(-1)
	b.settled()
	b.is()
	if b.x.Value(2) != 1 || b.x.Value(3) != 1 {
		t.Error(b.x.True())
	}
	b.back(0)
	b.decide(-2)
	b.settled()
	b.is()
	if b.x.Value(1) != 1 {
		t.Error(b.x.True())
	}
}

func TestAddByBothSignsOfAVariable(t *testing.T) {
	for _, lits := range [][]api.Lit{{1, -1}, {-1, 2, 1}, {-3, -2, 2, 1}, {3, 2, 1, -3}} {
		for _, decided := range [][]api.Lit{nil, {1}, {-1}, {-1, -2}, {1, -2, 3}, {-1, 2, -3}, {-3, -2, -1}} {
			b := with(t, 4, lits)
			for _, l := range decided {
				b.decide(l)
				b.settled()
			}
			b.add(lits...)
			b.settled()
			b.is()
			if len(b.x.True()) != len(decided) {
				t.Error(lits, decided, b.x.True())
			}
			b.remove(0)
			b.remove(0)
			b.is()
		}
	}
}

func TestAddOfWhatHasValues(t *testing.T) {
	for _, c := range []struct {
		lits     []api.Lit
		value    int // of 4
		conflict bool
	}{
		{[]api.Lit{1, 4}, 0, false},
		{[]api.Lit{-1, 4}, 1, false},
		{[]api.Lit{-1, -4}, -1, false},
		{[]api.Lit{1, 2}, 0, false},
		{[]api.Lit{-1, 2, -3}, 0, true},
		{[]api.Lit{-3}, 0, true},
		{[]api.Lit{3}, 0, false},
		{[]api.Lit{4}, 1, false},
		{[]api.Lit{-1, -3, 4, 2}, 1, false},
		{[]api.Lit{-1, -3, 4, 5}, 0, false},
		{[]api.Lit{-2, -3, 4}, 0, false},
		{[]api.Lit{-3, 4, -2, 5}, 0, false},
	} {
		b := begin(t, 5)
		b.decide(1)
		b.decide(-2)
		b.settled()
		b.decide(3)
		b.add(c.lits...)
		if c.conflict {
			b.conflict(0)
			continue
		}
		b.settled()
		b.is()
		if b.x.Value(4) != c.value {
			t.Error(c.lits, b.x.True())
		}
		for level := 2; level >= 0; level-- {
			b.back(level)
			b.is()
			b.settled()
			b.is()
		}
	}
}

func TestAddAtTheLimit(t *testing.T) {
	x := watch.New(3)
	for id := range api.MaxClauses {
		if n, err := x.Add(-1, 2); n != id || err != api.OK {
			t.Fatal(id, n, err)
		}
	}
	refused := func() {
		t.Helper()
		for _, lits := range [][]api.Lit{nil, {3}, {1, -1}, {9}} {
			if id, err := x.Add(lits...); id != 0 || err != api.ErrWatch || x.Len() != api.MaxClauses {
				t.Fatal(lits, id, err, x.Len())
			}
		}
	}
	refused()
	// One that was removed is one of them still.
	if err := x.Remove(api.MaxClauses - 1); err != api.OK {
		t.Error(err)
	}
	refused()
	x.Decide(1)
	if x.Propagate() != -1 || !slices.Equal(x.True(), []api.Lit{1, 2}) {
		t.Error(x.True())
	}
	refused()
	if lits, ok := x.Clause(api.MaxClauses - 2); !slices.Equal(lits, []api.Lit{-1, 2}) || !ok {
		t.Error(lits, ok)
	}
}

func TestAddOfAsManyLiteralsAsMayBe(t *testing.T) {
	all := make([]api.Lit, api.MaxVars)
	for i := range all {
		all[i] = api.Lit(i + 1)
	}
	x := watch.New(api.MaxVars)
	x.Add(append(slices.Clone(all), all...)...)
	for _, l := range all[1:] {
		x.Decide(-l)
		if x.Value(1) != 0 || x.Propagate() != -1 {
			t.Fatal(l)
		}
	}
	if x.Value(1) != 1 || x.Reason(1) != 0 || x.Level(1) != api.MaxVars-1 {
		t.Error(x.Value(1), x.Reason(1), x.Level(1))
	}
	if lits, ok := x.Clause(0); !slices.Equal(lits, all) || !ok {
		t.Error(len(lits), ok)
	}
}

func TestRemoveOfWhatThereIsNot(t *testing.T) {
	b := full(t)
	for _, id := range noNumbers(6) {
		if err := b.x.Remove(id); err != api.ErrWatch {
			t.Error(id, err)
		}
	}
	b.is()
	b.remove(4)
	for range 2 {
		if err := b.x.Remove(4); err != api.ErrWatch {
			t.Error(err)
		}
		b.is()
	}
	if err := watch.New(3).Remove(0); err != api.ErrWatch {
		t.Error(err)
	}
}

func TestRemoveOfAReason(t *testing.T) {
	b := full(t)
	for _, id := range []int{0, 1, 2, 3, 5} {
		if err := b.x.Remove(id); err != api.ErrWatch {
			t.Error(id, err)
		}
		b.is()
	}
	b.back(2)
	b.remove(3)
	b.remove(5)
	b.remove(2)
	b.is()
	b.back(0)
	b.remove(2)
	b.remove(1)
	b.remove(0)
	b.is()
	b.decide(1)
	b.decide(-2)
	b.settled()
	b.is()
	if !slices.Equal(b.x.True(), []api.Lit{3, 1, -2}) {
		t.Error(b.x.True())
	}
}

func TestRemoveOfOneThatHoldsButIsNoReason(t *testing.T) {
	b := with(t, 2, []api.Lit{1, 2}, []api.Lit{1, 2}, []api.Lit{1, 2})
	b.decide(-1)
	b.settled()
	reason := b.x.Reason(2)
	for id := range 3 {
		want := api.OK
		if id == reason {
			want = api.ErrWatch
		}
		if err := b.x.Remove(id); err != want {
			t.Error(id, err, want)
		}
		b.p.remove(id)
	}
	b.is()
	b.back(0)
	b.remove(reason)
	b.decide(-2)
	b.settled()
	b.is()
	if b.x.Value(1) != 0 {
		t.Error(b.x.True())
	}
}

func TestRemoveAheadOfPropagate(t *testing.T) {
	b := with(t, 3, []api.Lit{1}, []api.Lit{2}, []api.Lit{-2, 3}, nil)
	b.remove(1)
	b.remove(3)
	b.settled()
	b.is()
	if !slices.Equal(b.x.True(), []api.Lit{1}) {
		t.Error(b.x.True())
	}
}

func TestRemoveOfAConflict(t *testing.T) {
	b := with(t, 4, []api.Lit{1}, []api.Lit{-1}, []api.Lit{-1, 2}, []api.Lit{-2, 3}, []api.Lit{-2, -3}, []api.Lit{-1, 4})
	for id := b.propagate(); id >= 0; id = b.propagate() {
		b.remove(id)
		b.is()
	}
	if b.x.Value(1) == 1 && (b.x.Value(2) != 1 || b.x.Value(4) != 1) {
		t.Error(b.x.True())
	}
	b.is()
}

func TestRemoveOfAConflictThatWasFoundByWatching(t *testing.T) {
	b := with(t, 6, []api.Lit{-1, 2}, []api.Lit{-1, -2}, []api.Lit{-1, 3}, []api.Lit{-1, -3, 4}, []api.Lit{-4, 5})
	b.settled()
	b.add(1)
	b.remove(b.propagate())
	b.settled()
	b.is()
	if b.x.Value(5) != 1 {
		t.Error(b.x.True())
	}
}

// P5.3

func TestDecideOfWhatThereIsNot(t *testing.T) {
	b := full(t)
	for _, l := range noLits(9) {
		if err := b.x.Decide(l); err != api.ErrWatch {
			t.Error(l, err)
		}
		b.is()
	}
	for _, l := range noLits(0) {
		if err := watch.New(-5).Decide(l); err != api.ErrWatch {
			t.Error(l, err)
		}
	}
}

func TestDecideOfWhatHasAValue(t *testing.T) {
	b := full(t)
	for _, l := range b.x.True() {
		if b.x.Decide(l) != api.ErrSet || b.x.Decide(-l) != api.ErrSet {
			t.Error(l)
		}
		b.is()
	}
	b.back(2)
	b.settled()
	b.is()
	b.back(1)
	b.decide(-7)
	b.settled()
	b.is()
}

func TestDecideOfWhatWouldFollow(t *testing.T) {
	b := with(t, 3, []api.Lit{1}, []api.Lit{-1, 2})
	b.decide(-2)
	b.is()
	b.decide(1)
	b.is()
	b.conflict(1)
	b.is()
	b.back(0)
	b.settled()
	b.is()
	if b.x.Level(2) != 0 {
		t.Error(b.x.True())
	}
}

func TestBackToALevelThatThereIsNot(t *testing.T) {
	b := full(t)
	for _, level := range noNumbers(4) {
		if err := b.x.Back(level); err != api.ErrWatch {
			t.Error(level, err)
		}
		b.is()
	}
	x := watch.New(1)
	if x.Back(1) != api.ErrWatch || x.Back(-1) != api.ErrWatch || x.Back(0) != api.OK {
		t.Error("Back of none")
	}
}

func TestBackToEachLevel(t *testing.T) {
	for level := range 4 {
		b := full(t)
		b.back(level)
		b.is()
		b.back(level)
		b.is()
		b.settled()
		b.is()
		if b.x.Depth() != level {
			t.Error(level, b.x.Depth())
		}
		b.decide(-7)
		b.add(7, -3, 8)
		b.settled()
		b.is()
		b.back(0)
		b.settled()
		b.is()
	}
}

func TestBackToTheDepthItself(t *testing.T) {
	b := full(t)
	b.back(3)
	b.is()
	b.settled()
	b.is()
	b = begin(t, 2)
	b.back(0)
	b.add(1)
	b.back(0)
	b.settled()
	b.is()
}

func TestBackAheadOfPropagate(t *testing.T) {
	b := with(t, 5, []api.Lit{-1, 2}, []api.Lit{-2, -3, 4}, []api.Lit{-4, 5, -1})
	b.decide(1)
	b.decide(3)
	b.back(1)
	b.settled()
	b.is()
	b.back(0)
	b.decide(3)
	b.decide(1)
	b.settled()
	b.is()
	if !slices.Equal(b.x.True(), []api.Lit{3, 1, 2, 4, 5}) {
		t.Error(b.x.True())
	}
}

// P5.4

func TestTheChaptersExample(t *testing.T) {
	x := watch.New(2)
	if id, err := x.Add(1, 2); id != 0 || err != api.OK {
		t.Error(id, err)
	}
	if x.Decide(-1) != api.OK || x.Propagate() != -1 || x.Value(2) != 1 || x.Reason(2) != 0 {
		t.Error(x.True())
	}
}

func TestPropagateOfAConflictAtTheDepthZero(t *testing.T) {
	for _, clauses := range [][][]api.Lit{
		{nil},
		{{1}, {-1}},
		{{1, 2}, {1, -2}, {-1, 2}, {-1, -2}, {1}},
		{{1}, {-1, 2}, {-2, 3}, {-3, -1}},
		{{1}, {2}, {3}, {-1, -2, -3}},
		{{4, 5}, {1}, {-1, 2}, {-1, -2}},
	} {
		b := with(t, 6, clauses...)
		for range 5 {
			if b.propagate() < 0 {
				t.Error(clauses, b.x.True())
			}
			b.is()
		}
		b.add(4, -5)
		b.grow()
		for i := range 3 {
			if b.propagate() < 0 {
				t.Error(clauses, b.x.True())
			}
			b.decide(api.Lit(5 + i))
			b.is()
			b.back(0)
			b.add(api.Lit(5 + i))
			b.is()
		}
	}
}

func TestPropagateOfAConflictAboveTheDepthZero(t *testing.T) {
	b := with(t, 5, []api.Lit{-1, 2}, []api.Lit{-1, -2, 3}, []api.Lit{-1, -3, -4}, []api.Lit{-4, 5})
	b.settled()
	b.decide(4)
	b.settled()
	b.decide(1)
	b.conflict(1, 2)
	b.is()
	b.back(1)
	b.is()
	b.settled()
	b.is()
	if !slices.Equal(b.x.True(), []api.Lit{4, 5}) {
		t.Error(b.x.True())
	}
	b.decide(1)
	b.conflict(1, 2)
	b.back(0)
	b.decide(1)
	b.settled()
	b.is()
	if b.x.Value(4) != -1 {
		t.Error(b.x.True())
	}
}

func TestNothingPanicsBehindAConflict(t *testing.T) {
	for seed := range 200 {
		c := chance(seed)
		b := with(t, 6, []api.Lit{-1, 2}, []api.Lit{-1, -2}, []api.Lit{-3, 1}, []api.Lit{4, 5, 6})
		b.decide(5)
		b.settled()
		b.decide(3)
		if b.propagate() < 0 {
			t.Fatal(b.x.True())
		}
		for range 30 {
			b.x.Propagate()
			b.x.Add(c.clause(6, 3)...)
			b.x.Decide(c.lit(6))
			b.x.Remove(c.below(b.x.Len()))
			b.x.Back(max(2, b.x.Depth()-c.below(2)))
		}
		if b.x.Back(0) != api.OK || b.x.Depth() != 0 || b.x.Vars() != 6 {
			t.Fatal(b.x.Depth(), b.x.Vars())
		}
		b.x.Propagate()
	}
}

func TestAllFollowsAtOneDepth(t *testing.T) {
	const vars = api.MaxVars
	x := watch.New(vars)
	for v := api.Lit(1); v < vars; v++ {
		x.Add(-v, v+1)
	}
	if x.Propagate() != -1 || len(x.True()) != 0 {
		t.Fatal(len(x.True()))
	}
	x.Decide(1)
	if x.Propagate() != -1 || len(x.True()) != vars {
		t.Fatal(len(x.True()))
	}
	for v := 2; v <= vars; v++ {
		if x.Reason(v) != v-2 || x.Level(v) != 1 {
			t.Fatal(v, x.Reason(v), x.Level(v))
		}
	}
	x.Back(0)
	x.Decide(-vars)
	if x.Propagate() != -1 || len(x.True()) != vars || x.Value(1) != -1 || x.Reason(1) != 0 {
		t.Error(len(x.True()), x.Value(1))
	}
}

func TestAsDeepAsMayBe(t *testing.T) {
	const vars = api.MaxVars
	x := watch.New(vars)
	x.Add(1, 2, vars)
	for v := api.Lit(1); v < vars; v++ {
		if x.Decide(-v) != api.OK || x.Propagate() != -1 {
			t.Fatal(v)
		}
	}
	if x.Depth() != vars-1 || x.Level(vars) != 2 || x.Value(vars) != 1 {
		t.Error(x.Depth(), x.Level(vars))
	}
	for level := vars - 1; level >= 0; level-- {
		if x.Back(level) != api.OK || x.Propagate() != -1 || x.Depth() != level {
			t.Fatal(level)
		}
	}
	if len(x.True()) != 0 {
		t.Error(len(x.True()))
	}
}

// A clause is added four levels deep: what follows of it there, and at each level on the way back?
func TestLateClauses(t *testing.T) {
	for _, c := range []struct {
		lits   []api.Lit
		follow []api.Lit // by levels from 0 on; 0: nothing does
	}{
		{[]api.Lit{5}, []api.Lit{5, 5, 5, 5, 5}},
		{[]api.Lit{-1, 5}, []api.Lit{0, 5, 5, 5, 5}},
		{[]api.Lit{-2, 5}, []api.Lit{0, 0, 5, 5, 5}},
		{[]api.Lit{-1, -2, 5}, []api.Lit{0, 0, 5, 5, 5}},
		{[]api.Lit{-4, 5}, []api.Lit{0, 0, 0, 0, 5}},
		{[]api.Lit{-1, -3, 5}, []api.Lit{0, 0, 0, 5, 5}},
		{[]api.Lit{3}, []api.Lit{3, 3, 3, 0, 0}},
		{[]api.Lit{3, -1}, []api.Lit{0, 3, 3, 0, 0}},
		{[]api.Lit{3, 4, -1}, []api.Lit{0, 0, 0, 0, 0}},
		{[]api.Lit{4, -2, -1}, []api.Lit{0, 0, 4, 4, 0}},
		{[]api.Lit{-4, 3}, []api.Lit{0, 0, 0, 0, 0}},
		{[]api.Lit{5, 6}, []api.Lit{0, 0, 0, 0, 0}},
		{[]api.Lit{1, -2}, []api.Lit{0, 0, 0, 0, 0}},
	} {
		for _, asked := range []bool{false, true} {
			b := begin(t, 6)
			for l := api.Lit(1); l <= 4; l++ {
				b.decide(l)
				if asked {
					b.settled()
				}
			}
			b.add(c.lits...)
			for level := 4; level >= 0; level-- {
				b.back(level)
				b.is()
				b.settled()
				b.is()
				want := []api.Lit{1, 2, 3, 4}[:level:level]
				if c.follow[level] != 0 {
					want = append(want, c.follow[level])
				}
				if !slices.Equal(b.x.True(), want) {
					t.Error(c.lits, asked, level, b.x.True())
				}
			}
		}
	}
}

func TestLateClauseInConflict(t *testing.T) {
	for _, lits := range [][]api.Lit{{-1}, {-1, -2}, {-3, -1}, {-2, -3, -1}} {
		for level := range 3 {
			b := begin(t, 4)
			for l := api.Lit(1); l <= 3; l++ {
				b.decide(l)
				b.settled()
			}
			b.add(lits...)
			b.conflict(0)
			b.back(level)
			b.is()
			b.propagate()
			b.is()
			if b.p.stuck == 0 {
				b.decide(4)
				b.settled()
				b.is()
			}
			b.back(0)
			b.settled()
			b.decide(2)
			b.settled()
			b.decide(3)
			b.settled()
			b.is()
		}
	}
}

func TestLateClausesInARow(t *testing.T) {
	b := begin(t, 8)
	for l := api.Lit(1); l <= 4; l++ {
		b.decide(l)
	}
	b.add(-6, 7)
	b.add(-5, -1, 6)
	b.add(5)
	b.add(-7, -3, 8)
	b.settled()
	b.is()
	for _, c := range []struct {
		level int
		want  []api.Lit
	}{{3, []api.Lit{5, 6, 7, 8}}, {2, []api.Lit{5, 6, 7}}, {1, []api.Lit{5, 6, 7}}, {0, []api.Lit{5}}} {
		b.back(c.level)
		b.settled()
		b.is()
		now := b.x.True()[c.level:]
		slices.Sort(now)
		if !slices.Equal(now, c.want) {
			t.Error(c.level, b.x.True())
		}
	}
}

func TestWhatFollowsDeeperThanItMustComesAgain(t *testing.T) {
	b := with(t, 5, []api.Lit{-1, 4}, []api.Lit{-4, 5})
	for l := api.Lit(1); l <= 3; l++ {
		b.decide(l)
	}
	b.settled()
	if b.x.Level(4) != 3 || b.x.Level(5) != 3 {
		t.Error(b.x.Level(4), b.x.Level(5))
	}
	for level := 2; level >= 1; level-- {
		b.back(level)
		b.is()
		b.settled()
		b.is()
		if b.x.Level(4) != level || b.x.Level(5) != level {
			t.Error(level, b.x.Level(4), b.x.Level(5))
		}
	}
	b.back(0)
	b.settled()
	b.is()
}

// P5.5

// outcome is what is TRUE, sorted; none, if there is a conflict.
func outcome(t *testing.T, clauses [][]api.Lit, decided []api.Lit, eager, late bool) ([]api.Lit, bool) {
	b := begin(t, 7)
	addAll := func() {
		for _, c := range clauses {
			b.add(c...)
		}
	}
	if !late {
		addAll()
	}
	for _, l := range decided {
		if eager && b.propagate() >= 0 {
			return nil, false
		}
		if b.p.value(l) == 0 {
			b.decide(l)
		} else if b.p.value(l) == -1 {
			return nil, false
		}
	}
	if late {
		addAll()
	}
	if b.propagate() >= 0 {
		return nil, false
	}
	now := b.x.True()
	slices.Sort(now)
	return now, true
}

func TestWhatIsTrueHangsOnNoOrder(t *testing.T) {
	settled, broken := 0, 0
	for seed := range 600 {
		c := chance(seed)
		var clauses [][]api.Lit
		for range 3 + seed%12 {
			clauses = append(clauses, c.clause(7, 3))
		}
		decided := []api.Lit{api.Lit(1 + c.below(3)), api.Lit(-4 - c.below(2)), api.Lit(6 + c.below(2))}
		want, ok := outcome(t, clauses, decided, false, false)
		for turn := range 12 {
			for i := range clauses {
				k := c.below(i + 1)
				clauses[i], clauses[k] = clauses[k], clauses[i]
				slices.Reverse(clauses[k])
			}
			for i := range decided {
				k := c.below(i + 1)
				decided[i], decided[k] = decided[k], decided[i]
			}
			if now, same := outcome(t, clauses, decided, turn%2 == 0, turn%3 == 0); !slices.Equal(now, want) || same != ok {
				t.Fatal(clauses, decided, now, want)
			}
		}
		if ok {
			settled++
		} else {
			broken++
		}
	}
	if settled < 100 || broken < 100 {
		t.Error("too few of one kind", settled, broken)
	}
}

func TestWhatIsTrueHangsOnNoDetour(t *testing.T) {
	for seed := range 300 {
		c := chance(seed)
		var clauses [][]api.Lit
		for range 4 + seed%9 {
			clauses = append(clauses, c.clause(7, 4))
		}
		want, ok := outcome(t, clauses, []api.Lit{1, -5}, false, false)
		if !ok {
			continue
		}
		b := with(t, 7, clauses...)
		for range 10 {
			b.decide(c.lit(7))
			if b.propagate() >= 0 || c.below(3) == 0 {
				b.back(0)
			}
		}
		b.back(0)
		b.decide(1)
		b.decide(-5)
		b.settled()
		now := b.x.True()
		slices.Sort(now)
		if !slices.Equal(now, want) {
			t.Fatal(clauses, now, want)
		}
	}
}
