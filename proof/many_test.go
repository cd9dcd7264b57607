package proof_test

import (
	"slices"
	"testing"

	"lariat/api"
	"lariat/proof"
)

// More clauses than one engine takes.

// full is a formula with some clauses, and as many others as there may be, all of them unlike, of which nothing follows.
func full(clauses ...[]api.Lit) api.Formula {
	const side = 1024
	f := formula(3*side, clauses...)
	for n := range api.MaxClauses - len(clauses) {
		f.Clauses = append(f.Clauses, list(api.Lit(side+1+n/side), api.Lit(2*side+1+n%side)))
	}
	return f
}

func TestAsManyClausesAsMayBe(t *testing.T) {
	f := full(list(1, 2), list(1, -2), list(-1, 3), list(-3, -4, 5), list(-3, -4, -5))
	for _, c := range []struct {
		clause []api.Lit
		want   bool
	}{{list(-4), false}, {list(-3, -4), true}, {f.Clauses[api.MaxClauses-1], true}} {
		if ok, err := proof.Follows(f, c.clause...); ok != c.want || err != api.OK {
			t.Error(c.clause, ok, err)
		}
	}
	// What comes of the log and what comes of the formula takes turns.
	log := []api.Step{
		step(1), step(3), step(-4), step(6, -6), step(-4, 9),
		gone(2, 1), step(1), gone(1), step(3), gone(3), gone(-1, 3), step(-4), gone(-4), step(-4, 9), gone(-9, 6),
	}
	if at, err := proof.Check(f, log...); at != len(log)-1 || err != api.OK {
		t.Error(at, err)
	}
	log = log[:len(log)-1]
	if ok, err := proof.Proves(f, list(-4, 9, 7), log...); !ok || err != api.OK {
		t.Error(ok, err)
	}
	if ok, err := proof.Proves(f, list(2), log...); ok || err != api.OK {
		t.Error(ok, err)
	}
	if steps, err := proof.Needed(f, log[:3]...); !slices.Equal(steps, []int{0, 1, 2}) && !slices.Equal(steps, []int{0, 2}) || err != api.OK {
		t.Error(steps, err)
	}
}

func TestMoreStepsThanAnEngineTakes(t *testing.T) {
	// All of them unlike, and all are at hand.
	const vars = 2000
	f := formula(vars, list(1), list(-1, 2, 3))
	var log []api.Step
	for n := range api.MaxClauses + 5 {
		log = append(log, step(1, -api.Lit(4+n/1100), api.Lit(4+n%1100)))
	}
	log = append(log, gone(1), step(3, 2), step(2))
	if at, err := proof.Check(f, log...); at != len(log)-2 || err != api.OK {
		t.Error(at, err)
	}
	log[len(log)-1] = gone(log[0].Clause...)
	if at, err := proof.Check(f, log...); at != len(log)-2 || err != api.OK {
		t.Error(at, err)
	}
	log = slices.Delete(log, api.MaxClauses+5, len(log))
	log = append(log, step(2, 3), gone(1), step(2, 3))
	if steps, err := proof.Needed(f, log...); err != api.OK || len(steps) > 2 || steps[len(steps)-1] != len(log)-1 {
		t.Error(len(steps), err)
	}
}

func TestMoreStepsThanAnEngineNumbers(t *testing.T) {
	// Few are at hand at a time.
	f := formula(4, list(1, 2), list(1, -2), list(3, 4))
	var log []api.Step
	for n := range api.MaxClauses {
		l := api.Lit(3 - 6*(n%2))
		log = append(log, step(1, l), gone(l, 1))
	}
	log = append(log, step(1), step(3))
	if at, err := proof.Check(f, log...); at != len(log)-1 || err != api.OK {
		t.Error(at, err)
	}
	if ok, err := proof.Proves(f, list(1), log[:len(log)-1]...); !ok || err != api.OK {
		t.Error(ok, err)
	}
}

func TestManyClausesThatAreAlike(t *testing.T) {
	f := formula(3)
	var log []api.Step
	for range api.MaxClauses {
		f.Clauses = append(f.Clauses, list(1, 2))
		log = append(log, gone(2, 1, 2))
	}
	log = append(log, step(1, 2, 3), gone(1, 2))
	if at, err := proof.Check(f, log...); at != api.MaxClauses || err != api.OK {
		t.Error(at, err)
	}
	log[api.MaxClauses-1] = step(2, 1)
	if at, err := proof.Check(f, log...); at != -1 || err != api.OK {
		t.Error(at, err)
	}
}

// small holds what is answered with engines that take few clauses against the words.
func small(t *testing.T, room int, f api.Formula, goal []api.Lit, log ...api.Step) {
	t.Helper()
	want, hand := walk(f, log)
	at, ok, steps := proof.InSmallEngines(room, f, goal, log...)
	if at != want || ok != (want == -1 && follows(hand, goal)) {
		t.Fatal("with room for", room, f, log, goal, at, want, ok)
	}
	if want == -1 {
		isNeeded(t, f, log, steps)
	}
}

func TestSmallEngines(t *testing.T) {
	for seed := range 1000 {
		c := chance(seed)
		vars := 2 + seed%6
		f := anyFormula(c, vars, vars*(1+seed%3), 3)
		log := anyLog(c, f, 15)
		goal := anyLits(c, vars, c.IntN(3))
		for _, room := range []int{1, 2, 3, 5, 8, 13} {
			small(t, room, f, goal, log...)
		}
	}
}

func TestSmallEnginesTakeTurns(t *testing.T) {
	const vars = 120
	for room := 1; room < 12; room++ {
		f := chain(vars)
		log := []api.Step{step(-1, vars), gone(-60, 61), step(-1, vars), step(-1, 2), gone(vars, -1), step(-2, 60), step(61, -1)}
		small(t, room, f, list(-1, 60), log...)
		small(t, room, f, list(-1, 60), log[:len(log)-1]...)
		c := chance(room)
		c.Shuffle(len(f.Clauses), func(i, j int) { f.Clauses[i], f.Clauses[j] = f.Clauses[j], f.Clauses[i] })
		small(t, room, f, list(-1, 60), log[:len(log)-1]...)
		f.Clauses[3] = append(f.Clauses[3], -vars)
		f.Clauses = append(f.Clauses, list(1))
		small(t, room, f, list(vars), step(vars), gone(1), step(-2, vars), gone(vars), step(vars))
	}
}

func TestSmallEnginesOfASolversLog(t *testing.T) {
	f := holes(5)
	s, _ := solved(f, api.Options{Unit: 5, Reduce: 10}, nil)
	log := s.Log()
	for _, room := range []int{3, 10, 50} {
		small(t, room, f, nil, log...)
	}
}

// Rules that hold everywhere.

func TestTheSameCallsAnswerTheSame(t *testing.T) {
	f := holes(6)
	s, _ := solved(f, api.Options{Unit: 5, Reduce: 10}, nil)
	log := s.Log()
	first, _ := proof.Needed(f, log...)
	for range 5 {
		if steps, err := proof.Needed(f, log...); !slices.Equal(steps, first) || err != api.OK {
			t.Error(steps, first, err)
		}
	}
	spoiled := first[:cap(first)]
	for i := range spoiled {
		spoiled[i] = -7
	}
	if steps, err := proof.Needed(f, log...); slices.Contains(steps, -7) || err != api.OK {
		t.Error(steps, err)
	}
}

func TestWhatIsHandedInStays(t *testing.T) {
	// is looks at the lists; here, at what room there is behind them.
	room := make([]api.Lit, 24)
	cut := func(at int, l ...api.Lit) []api.Lit { return append(room[at:at], l...) }
	f := formula(3, cut(0, 2, 1, 2), cut(4, -1, 2))
	steps := make([]api.Step, 4)
	log := append(steps[:0], api.Step{Clause: cut(8, 3, 2, 3)}, api.Step{Gone: true, Clause: cut(12, 3, 3, 2)}, api.Step{Clause: cut(16, 2)})
	goal := cut(20, 2, 1, 2)
	was := slices.Clone(room)
	is(t, f, goal, log...)
	if !slices.Equal(room, was) || len(steps[3].Clause) != 0 || steps[3].Gone {
		t.Error(room, steps)
	}
}
