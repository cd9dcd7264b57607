package learn_test

import (
	"math"
	"slices"
	"testing"

	"lariat/api"
	"lariat/learn"
	"lariat/watch"
)

// noNumbers is what is no number of so many things, counted from 0 on.
func noNumbers(things int) []int {
	return []int{
		-1, -2, -things - 1, things, things + 1, 1 << 32, 1<<32 + 1, -1 << 32, -1<<32 + 1,
		math.MinInt32, math.MaxInt32, math.MinInt, math.MinInt + 1, math.MaxInt,
	}
}

// want holds what is learnt against what alone comes of a conflict by its Reasons; in which order the other literals come is left open.
func want(t *testing.T, e *watch.Engine, id int, back int, clause ...api.Lit) {
	t.Helper()
	got, gotBack := learnt(t, e, id)
	rest, wantRest := slices.Clone(got[1:]), slices.Clone(clause[1:])
	slices.Sort(rest)
	slices.Sort(wantRest)
	if got[0] != clause[0] || !slices.Equal(rest, wantRest) || gotBack != back {
		t.Fatal(got, clause, gotBack, back)
	}
}

// P6.1

func TestNoSuchClause(t *testing.T) {
	for _, e := range []*watch.Engine{
		watch.New(0),
		watch.New(5),
		with(t, 3, list(1, 2), list(1, -2)),
	} {
		if e.Len() > 0 {
			clash(t, e, -1)
		}
		for _, id := range noNumbers(e.Len()) {
			refused(t, e, id)
		}
		each(t, e)
	}
}

func TestOfWhatWasRemoved(t *testing.T) {
	e := with(t, 4, list(-1, -2), list(-2, -1))
	decide(t, e, 1, 2)
	want(t, e, 0, 1, -2, -1)
	if err := e.Remove(0); err != api.OK {
		t.Fatal(err)
	}
	refused(t, e, 0)
	want(t, e, 1, 1, -2, -1)
}

func TestNotAllIsFalse(t *testing.T) {
	e := with(t, 6, list(-1, -2, 3), list(-1, -2, 4), list(3, -4), list(1), list(-3, -4, -1), list(5), list(1, -1), list(-2, 5, 2), list(4, 3, 5))
	decide(t, e, 1, 2, -3)
	for id := 1; id < e.Len(); id++ {
		refused(t, e, id)
	}
	if n := each(t, e); n != 1 {
		t.Error(n)
	}
	decide(t, e, -4)
	if n := each(t, e); n != 2 {
		t.Error(n)
	}
	decide(t, e, -5)
	if n := each(t, e); n != 4 {
		t.Error(n)
	}
}

func TestAllIsFalseForEver(t *testing.T) {
	e := with(t, 5, list(1), list(-1), list(2), list(-1, -2), list(-1, -2, -3), list(3))
	for range 6 {
		id := e.Propagate()
		if id < 0 {
			t.Fatal(e.True())
		}
		refused(t, e, id)
	}
	each(t, e)
	// However deep one is.
	decide(t, e, 4, 5)
	if e.Depth() != 2 || each(t, e) != 0 {
		t.Error(e.True())
	}
}

func TestWithoutLiterals(t *testing.T) {
	e := with(t, 3, nil)
	refused(t, e, 0)
	if e.Propagate() != 0 {
		t.Error(e.True())
	}
	refused(t, e, 0)
	decide(t, e, 1, -2)
	refused(t, e, 0)
	add(t, e)
	refused(t, e, 1)
}

func TestRefusedChangesNothing(t *testing.T) {
	e := with(t, 5, list(3), list(-1, -2, -3), list(4, 5), list(-3, 4, 5))
	decide(t, e, -4, 1, 2)
	clash(t, e)
	was := picture(e)
	for _, id := range append(noNumbers(4), 0, 2, 3) {
		if _, ok := isConflict(e, id); !ok {
			refused(t, e, id)
		}
		if !samePicture(was, picture(e)) {
			t.Fatal(id)
		}
	}
	if n := each(t, e); n != 1 {
		t.Error(n)
	}
}

// P6.2

func TestTheChaptersExample(t *testing.T) {
	e := with(t, 2, list(1, 2), list(1, -2))
	id := clash(t, e, -1)
	want(t, e, id, 0, 1)
}

func TestOfOneDecision(t *testing.T) {
	// Nothing but the decision itself makes all that clashes.
	for _, c := range [][][]api.Lit{
		{{-1, 2}, {-1, -2}},
		{{-1, 2}, {-1, 3}, {-2, -3}},
		{{-1, 2}, {-1, 3}, {-1, 4}, {-2, -3, -4}},
		{{-1, 2}, {-1, 3}, {-2, -3, 4}, {-1, -4}},
	} {
		e := with(t, 6, c...)
		want(t, e, clash(t, e, 1), 0, -1)
		e = with(t, 6, c...)
		want(t, e, clash(t, e, 5, -6, 1), 0, -1)
	}
}

func TestOneOfTheGreatestLevelIsLeft(t *testing.T) {
	// 1 and 2 make 3; of that and 4 come 5 and 6, which part.
	e := with(t, 8, list(-1, -2, 3), list(-3, -4, 5), list(-3, -4, 6), list(-5, -6, 7), list(-5, -6, -7))
	id := clash(t, e, 1, 2, 8, 4)
	want(t, e, id, 2, -4, -3)
}

func TestTheFirstOneNeedNotBeDecided(t *testing.T) {
	e := with(t, 8, list(-2, -1, 3), list(-3, 4), list(-3, 5), list(-4, -5))
	id := clash(t, e, 1, 6, 2)
	clause, back := learnt(t, e, id)
	if !slices.Equal(clause, list(-3)) && !slices.Equal(clause, list(-2, -1)) || len(clause) == 1 && back != 0 || len(clause) == 2 && back != 1 {
		t.Error(clause, back)
	}
}

func TestTheConflictItselfIsLearnt(t *testing.T) {
	e := with(t, 5, list(-1, -2, -3, -4), list(4))
	settled(t, e)
	decide(t, e, 3, 1, 2)
	want(t, e, 0, 2, -2, -1, -3)
	e.Back(2)
	refused(t, e, 0)
	decide(t, e, -5, 2)
	want(t, e, 0, 2, -2, -1, -3)
}

func TestOfOneLiteral(t *testing.T) {
	e := with(t, 3, list(-1))
	decide(t, e, 3, 1, 2)
	want(t, e, 0, 0, -1)
	e = with(t, 3, list(1))
	settled(t, e)
	decide(t, e, 3, 2)
	want(t, e, add(t, e, -2, -1), 0, -2)
}

func TestTheGreatestLevelIsTheConflictsOwn(t *testing.T) {
	// What is deeper than the conflict has no part in it.
	e := with(t, 9, list(-1, 2), list(-1, 3), list(-4, 5), list(-4, -5, 6), list(-7, 8))
	decide(t, e, 1)
	settled(t, e)
	decide(t, e, 4)
	settled(t, e)
	decide(t, e, 7)
	settled(t, e)
	for _, c := range []struct {
		conflict, want []api.Lit
		back           int
	}{
		{list(-2, -3), list(-1), 0},
		{list(-5, -6), list(-4), 0},
		{list(-5, -6, -2), list(-4, -2), 1},
		{list(-8, -7), list(-7), 0},
		{list(-8, -7, -5, -1), list(-7, -5, -1), 2},
	} {
		want(t, e, add(t, e, c.conflict...), c.back, c.want...)
	}
	// Of these, more than one thing may be learnt.
	for _, c := range [][]api.Lit{{-3}, {-2, -6, -3}, {-8}, {-1, -8}, {-8, -6, -2}} {
		learnt(t, e, add(t, e, c...))
	}
}

func TestWhatIsFalseForEverIsLeftOut(t *testing.T) {
	e := with(t, 8, list(1), list(-1, 2), list(-3, -2, 4), list(-3, -1, 5), list(-4, -5, -2, -1, -6), list(-1, 8))
	id := clash(t, e, 6, 7, 3)
	want(t, e, id, 1, -3, -6)
}

func TestOfLiteralsThatCameLaterThanTheyMight(t *testing.T) {
	// 5 follows of 1 alone, but nothing was asked before the level 3.
	e := with(t, 6, list(-1, 5), list(-2, 6))
	decide(t, e, 1, 2, 3)
	settled(t, e)
	if e.Level(5) != 3 || e.Level(6) != 3 {
		t.Fatal(e.Level(5), e.Level(6))
	}
	// The first one stays, whatever its Reason says.
	want(t, e, add(t, e, -5, -1), 1, -5, -1)
	clause, back := learnt(t, e, add(t, e, -5, -6))
	if !slices.Equal(clause, list(-5, -2)) && !slices.Equal(clause, list(-6, -1)) || back != e.Level(abs(clause[1])) {
		t.Error(clause, back)
	}
	want(t, e, add(t, e, -5, -3), 1, -3, -1)
}

func TestOfClausesThatCameLate(t *testing.T) {
	e := with(t, 8, list(-1, 2))
	decide(t, e, 1)
	settled(t, e)
	decide(t, e, 3)
	settled(t, e)
	add(t, e, 4)
	add(t, e, -4, 5)
	settled(t, e)
	if e.Level(4) != 2 || e.Level(5) != 2 {
		t.Fatal(e.True())
	}
	// Of 4 nothing need be known: it is true by itself.
	want(t, e, add(t, e, -4, -3), 0, -3)
	decide(t, e, 6)
	want(t, e, add(t, e, -6, -4), 0, -6)
	want(t, e, add(t, e, -6, -4, -5), 0, -6)
	learnt(t, e, add(t, e, -6, -5, -2, -1))
}

func TestAnyConflictWillDo(t *testing.T) {
	// Not the one alone of which Propagate told.
	e := with(t, 5, list(-1, -2, 3), list(-1, -2, -3), list(-3, 4), list(-3, -4), list(-1, -2), list(-2, -1, 5))
	decide(t, e, 1, 2)
	clash(t, e)
	if n := each(t, e); n < 2 {
		t.Error(n, e.True())
	}
}

func TestWhatIsLearntMends(t *testing.T) {
	for seed := range 300 {
		c := chance(seed)
		vars := 5 + seed%8
		e := watch.New(vars)
		for range 4 * vars {
			add(t, e, anyClause(c, vars, 3)...)
		}
		for range 1000 {
			id := e.Propagate()
			switch {
			case id < 0 && len(e.True()) == vars || id >= 0 && e.Depth() == 0:
				return
			case id < 0:
				e.Decide(anyLit(c, vars))
				continue
			}
			clause, back := learnt(t, e, id)
			e.Back(back)
			if e.Value(clause[0]) != 0 {
				t.Fatal(clause, back, e.True())
			}
			add(t, e, clause...)
			if e.Propagate() < 0 && e.Value(clause[0]) != 1 {
				t.Fatal(clause, back, e.True())
			}
		}
		t.Fatal("without end", seed)
	}
}

// P6.3

func TestWhatAReasonSaysIsLeftOut(t *testing.T) {
	for _, c := range []struct {
		name     string
		clauses  [][]api.Lit
		decided  []api.Lit
		conflict []api.Lit
		want     []api.Lit
		back     int
	}{
		{"by one other", [][]api.Lit{{-1, 2}}, list(1), list(-1, -2, -9), list(-9, -1), 1},
		{"by two others", [][]api.Lit{{-1, -2, 3}}, list(1, 2), list(-1, -2, -3, -9), list(-9, -2, -1), 2},
		{"by one that is left out itself", [][]api.Lit{{-1, 2}, {-1, -2, 3}}, list(1), list(-1, -2, -3, -9), list(-9, -1), 1},
		{"in a row", [][]api.Lit{{-1, 2}, {-2, 3}, {-3, 4}}, list(1), list(-4, -3, -2, -1, -9), list(-9, -1), 1},
		{"by one that is false for ever", [][]api.Lit{{8}, {-8, -1, 2}}, list(1), list(-1, -2, -9), list(-9, -1), 1},
		{"by one of a level below", [][]api.Lit{{-1, -2, 3}, {-1, 4}}, list(1, 2), list(-4, -3, -2, -1, -9), list(-9, -2, -1), 2},
		{"by what is itself the other sign", [][]api.Lit{{1, -2}, {-3, 2, 4}}, list(-1, 3), list(1, 2, -3, -4, -9), list(-9, -3, 1), 2},
		{"not by what isn't there", [][]api.Lit{{-1, -2, 3}}, list(1, 2), list(-1, -3, -9), list(-9, -3, -1), 2},
		{"of two one", [][]api.Lit{{-1, 2}, {-3, 4}}, list(1, 3), list(-1, -2, -4, -9), list(-9, -4, -1), 2},
		{"not what was decided", nil, list(1, 2), list(-1, -2, -9), list(-9, -2, -1), 2},
		{"the greatest of the others", [][]api.Lit{{-1, -2, 3}, {-3, 4}}, list(1, 2), list(-3, -4, -9), list(-9, -3), 2},
	} {
		e := with(t, 9, c.clauses...)
		for _, l := range c.decided {
			settled(t, e)
			decide(t, e, l)
		}
		settled(t, e)
		decide(t, e, 9)
		settled(t, e)
		t.Log(c.name)
		want(t, e, add(t, e, c.conflict...), c.back, c.want...)
	}
}

func TestWhatReasonsSayIsLeftOutBehindResolving(t *testing.T) {
	e := with(t, 9, list(-1, 2), list(-9, -1, 3), list(-9, -2, 4), list(-3, -4))
	want(t, e, clash(t, e, 1, 9), 1, -9, -1)
}

func TestWhatTwoReasonsSayMayStay(t *testing.T) {
	// 3 comes of 2, which isn't there, though that comes of 1, which is: no Reason alone says so.
	e := with(t, 9, list(-1, 2), list(-2, 3))
	decide(t, e, 1)
	settled(t, e)
	decide(t, e, 9)
	clause, back := learnt(t, e, add(t, e, -1, -3, -9))
	if !slices.Contains(clause, -1) || back != 1 || len(clause) > 3 {
		t.Error(clause, back)
	}
}

// P6.4

func TestLevels(t *testing.T) {
	e := with(t, 9, list(1), list(-1, 2), list(-3, 4), list(-5, -4, 6))
	settled(t, e)
	decide(t, e, 3)
	settled(t, e)
	decide(t, e, -7)
	settled(t, e)
	decide(t, e, 5)
	settled(t, e)
	for _, c := range []struct {
		clause []api.Lit
		want   int
	}{
		{nil, 0},
		{list(), 0},
		{list(1), 1},
		{list(-1), 1},
		{list(1, 2), 1},
		{list(1, -1, 1), 1},
		{list(3), 1},
		{list(-3, 4), 1},
		{list(3, 1), 2},
		{list(7), 1},
		{list(-7), 1},
		{list(6, -5), 1},
		{list(6, 4), 2},
		{list(5, 7, 3), 3},
		{list(6, 5, -7, 4, -3), 3},
		{list(1, 2, 3, 4, 5, 6, 7), 4},
		{list(-7, -6, -5, -4, -3, -2, -1), 4},
		{list(8), 0},
		{list(-9, 8), 0},
		{list(8, 3, 9), 1},
		{list(1, 8, 3, -9, 7, 5), 4},
		{list(0), 0},
		{list(10, -10, 11), 0},
		{list(api.MaxVars, -api.MaxVars, api.MaxVars+1, -api.MaxVars-1), 0},
		{list(math.MinInt32, math.MaxInt32, -math.MaxInt32), 0},
		{list(0, 3, 10, math.MinInt32, 1), 2},
	} {
		was := slices.Clone(c.clause)
		if n := learn.Levels(e, c.clause); n != c.want || !slices.Equal(was, c.clause) {
			t.Error(was, c.clause, n, c.want)
		}
	}
	e.Back(1)
	if n := learn.Levels(e, list(1, 2, 3, 4, 5, 6, 7)); n != 2 {
		t.Error(n)
	}
	e.Back(0)
	if n := learn.Levels(e, list(1, 2, 3, 4, 5, 6, 7)); n != 1 {
		t.Error(n)
	}
	if n := learn.Levels(watch.New(0), list(1, -1, 0)); n != 0 {
		t.Error(n)
	}
}

func TestLevelsChangesNothing(t *testing.T) {
	e := with(t, 4, list(-1, 2), list(-3, 4))
	decide(t, e, 1, 3)
	settled(t, e)
	was := picture(e)
	room := list(4, -3, 2, 1, 9)
	if n := learn.Levels(e, room[:3]); n != 1 {
		t.Error(n, e.Level(2), e.Level(4))
	}
	if !slices.Equal(room, list(4, -3, 2, 1, 9)) || !samePicture(was, picture(e)) {
		t.Error(room)
	}
}

func TestLevelsOfAllThatThereAre(t *testing.T) {
	e := watch.New(api.MaxVars)
	var all []api.Lit
	for v := api.Lit(1); v <= api.MaxVars; v++ {
		e.Decide(-v)
		all = append(all, v)
	}
	if n := learn.Levels(e, all); n != api.MaxVars {
		t.Error(n)
	}
}

// The rules that hold everywhere.

func TestAnswersAreNewMemory(t *testing.T) {
	e := with(t, 9, list(-1, 2), list(-3, 4), list(-2, -4, -9, 8), list(-2, -4, -9, -8))
	id := clash(t, e, 1, 3, 9)
	clause, back := learnt(t, e, id)
	other, _ := learnt(t, e, id)
	was := picture(e)
	kept := slices.Clone(clause)
	all := clause[:cap(clause)]
	for i := range all {
		all[i] = 7
	}
	if !slices.Equal(other, kept) || !samePicture(was, picture(e)) {
		t.Error(other, kept)
	}
	_ = append(other, 5, 6)
	if again, backAgain := learnt(t, e, id); !slices.Equal(again, kept) || backAgain != back {
		t.Error(again, kept)
	}
}

func TestTheSameEachTime(t *testing.T) {
	// Many literals of one level: their order hangs on nothing but on what was done.
	var first []api.Lit
	for range 50 {
		e := watch.New(60)
		conflict := list(-60)
		decide(t, e, 59)
		for v := api.Lit(1); v <= 40; v++ {
			add(t, e, -59, -v-1, v)
			conflict = append(conflict, -v)
		}
		decide(t, e, 41)
		settled(t, e)
		decide(t, e, 57, 60)
		clause, _ := learnt(t, e, add(t, e, conflict...))
		wide, _ := learnt(t, e, add(t, e, -60, -59, -57, -41, -40, -39))
		clause = append(clause, wide...)
		if first == nil {
			first = clause
		}
		if !slices.Equal(clause, first) {
			t.Fatal(clause, first)
		}
	}
}

func TestManyThatStayAreTheSameEachTime(t *testing.T) {
	var first []api.Lit
	for range 50 {
		e := watch.New(60)
		conflict := list(-60)
		decide(t, e, 59)
		for v := api.Lit(2); v <= 40; v++ {
			add(t, e, -59, -1, v)
			conflict = append(conflict, -v)
		}
		decide(t, e, 1)
		settled(t, e)
		decide(t, e, 60)
		clause, _ := learnt(t, e, add(t, e, conflict...))
		if first == nil {
			first = clause
		}
		if len(clause) != 40 || !slices.Equal(clause, first) {
			t.Fatal(clause, first)
		}
	}
}

// As many as may be.

func TestALongWayAtOneLevel(t *testing.T) {
	const vars = api.MaxVars
	e := watch.New(vars)
	for v := api.Lit(1); v < vars; v++ {
		e.Add(-v, v+1)
	}
	id := add(t, e, -vars, -1)
	e.Decide(1)
	e.Propagate()
	if clause, back, err := learn.Learn(e, id); !slices.Equal(clause, list(-1)) || back != 0 || err != api.OK {
		t.Error(len(clause), back, err)
	}
}

func TestAConflictOfAllThatThereAre(t *testing.T) {
	const vars = api.MaxVars
	e := watch.New(vars)
	var all []api.Lit
	for v := api.Lit(1); v <= vars; v++ {
		all = append(all, -v)
	}
	id := add(t, e, all...)
	for v := api.Lit(vars); v > 0; v-- {
		e.Decide(v)
	}
	clause, back, err := learn.Learn(e, id)
	if len(clause) != vars || clause[0] != -1 || back != vars-1 || err != api.OK {
		t.Fatal(len(clause), back, err)
	}
	slices.Sort(clause)
	slices.Sort(all)
	if !slices.Equal(clause, all) {
		t.Error("others are learnt")
	}
}

func TestALongWayThatIsLeftOut(t *testing.T) {
	const vars = api.MaxVars
	e := watch.New(vars)
	all := list(-vars, -1)
	for v := api.Lit(1); v < vars-1; v++ {
		e.Add(-v, v+1)
		all = append(all, -v-1)
	}
	id := add(t, e, all...)
	e.Decide(1)
	e.Decide(vars)
	if e.Propagate() < 0 {
		t.Fatal("no conflict")
	}
	// All came at the level 2, so that all but one are resolved.
	if clause, back, err := learn.Learn(e, id); err != api.OK || len(clause) > 2 || back > 1 {
		t.Error(len(clause), back, err)
	}
	e = watch.New(vars)
	for v := api.Lit(1); v < vars-1; v++ {
		e.Add(-v, v+1)
	}
	e.Decide(1)
	e.Propagate()
	e.Decide(vars)
	id = add(t, e, all...)
	if clause, back, err := learn.Learn(e, id); !slices.Equal(clause, list(-vars, -1)) || back != 1 || err != api.OK {
		t.Error(len(clause), back, err)
	}
}

// All that the words say, in many orders of calls.

func TestEachClauseInManyOrders(t *testing.T) {
	conflicts := 0
	for seed := range 1500 {
		c := chance(seed)
		vars := 3 + seed%8
		e := watch.New(vars)
		stuck := 0
		for range 40 {
			switch n := c.IntN(10); {
			case n == 0:
				e.Back(c.IntN(e.Depth() + 1))
			case n == 1 && e.Len() > 0:
				e.Remove(c.IntN(e.Len()))
			case n < 5:
				e.Decide(anyLit(c, vars))
			case stuck > 0:
				// Behind a conflict nothing is promised of the rest, before one goes back.
				e.Back(c.IntN(stuck))
			case n < 8:
				e.Add(anyClause(c, vars, 1+seed%5)...)
			default:
				if e.Propagate() >= 0 {
					stuck = e.Depth()
				}
			}
			if e.Depth() < stuck {
				stuck = 0
			}
			conflicts += each(t, e)
		}
	}
	if conflicts < 5000 {
		t.Error("too few conflicts", conflicts)
	}
}

func TestAllShortOrdersOfCalls(t *testing.T) {
	clauses := [][]api.Lit{{-1, 2}, {-1, -2, 3}, {-2, -3}, {4}, {-3, -4, 1}, {1, 3}}
	decided := []api.Lit{1, -1, 2, 3, -3}
	conflicts := 0
	var follow func(chosen []int)
	follow = func(chosen []int) {
		e := watch.New(4)
		for _, c := range chosen {
			switch {
			case c < len(clauses):
				e.Add(clauses[c]...)
			case c < len(clauses)+len(decided):
				e.Decide(decided[c-len(clauses)])
			case e.Propagate() >= 0:
				conflicts += each(t, e)
				return
			}
		}
		conflicts += each(t, e)
		if len(chosen) == 5 {
			return
		}
		for c := range len(clauses) + len(decided) + 1 {
			follow(append(slices.Clone(chosen), c))
		}
	}
	follow(nil)
	if conflicts < 5000 {
		t.Error("too few conflicts", conflicts)
	}
}

// holes says that so many pigeons have holes of their own, of which there is one fewer.
func holes(t *testing.T, pigeons int) *watch.Engine {
	t.Helper()
	n := pigeons - 1
	at := func(p, h int) api.Lit { return api.Lit(p*n + h + 1) }
	e := watch.New(pigeons * n)
	for p := range pigeons {
		var one []api.Lit
		for h := range n {
			one = append(one, at(p, h))
			for q := range p {
				add(t, e, -at(p, h), -at(q, h))
			}
		}
		add(t, e, one...)
	}
	return e
}

func TestLearningComesToAnEnd(t *testing.T) {
	for pigeons := 2; pigeons <= 5; pigeons++ {
		e := holes(t, pigeons)
		for n := 0; ; n++ {
			id := e.Propagate()
			if id >= 0 && e.Depth() == 0 {
				refused(t, e, id)
				break
			}
			if id >= 0 {
				clause, back := learnt(t, e, id)
				e.Back(back)
				add(t, e, clause...)
				continue
			}
			if len(e.True()) == e.Vars() || n > 10000 {
				t.Fatal(pigeons, n, e.True())
			}
			for v := api.Lit(1); ; v++ {
				if e.Value(v) == 0 {
					e.Decide(v)
					break
				}
			}
		}
	}
}
