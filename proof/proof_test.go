package proof_test

import (
	"math"
	"slices"
	"testing"

	"lariat/api"
	"lariat/proof"
	"lariat/sat"
)

// noLits is what is no literal of one of so many variables.
func noLits(vars int) []api.Lit {
	next := api.Lit(vars + 1)
	return []api.Lit{
		0, next, -next, next + 1, -next - 1, api.MaxVars, -api.MaxVars, api.MaxVars + 1, -api.MaxVars - 1,
		math.MaxInt32, math.MinInt32, math.MinInt32 + 1, 1 << 30, -1 << 30,
	}
}

// refused looks whether all calls refuse a formula, a goal and a log.
func refused(t *testing.T, f api.Formula, goal []api.Lit, log ...api.Step) {
	t.Helper()
	if ok, err := proof.Proves(f, goal, log...); ok || err != api.ErrProof {
		t.Error("Proves", f.Vars, goal, ok, err)
	}
	if len(log) == 0 {
		if ok, err := proof.Follows(f, goal...); ok || err != api.ErrProof {
			t.Error("Follows", f.Vars, goal, ok, err)
		}
	}
	if len(goal) > 0 {
		return
	}
	if at, err := proof.Check(f, log...); at != 0 || err != api.ErrProof {
		t.Error("Check", f.Vars, at, err)
	}
	if steps, err := proof.Needed(f, log...); len(steps) != 0 || err != api.ErrProof {
		t.Error("Needed", f.Vars, steps, err)
	}
}

// Errors

func TestFormulasThatCantBe(t *testing.T) {
	if api.ErrProof != 91 {
		t.Error(api.ErrProof)
	}
	for _, vars := range []int{-1, math.MinInt, api.MaxVars, api.MaxVars + 1, math.MaxInt} {
		refused(t, formula(vars), nil)
		refused(t, formula(vars, list()), nil)
		refused(t, formula(vars), nil, step())
	}
	for _, l := range noLits(3) {
		refused(t, formula(3, list(1), list(2, l)), nil)
		refused(t, formula(3, list(l)), list(1))
		refused(t, formula(3, list(), list(-1, l, 1)), nil, step())
	}
	refused(t, formula(0, list(1)), nil)
}

func TestFormulasThatAreTooLong(t *testing.T) {
	clauses := make([][]api.Lit, api.MaxClauses+1)
	for i := range clauses {
		clauses[i] = list(1)
	}
	refused(t, formula(1, clauses...), nil)
	long := slices.Repeat(list(1), api.MaxLits+1)
	refused(t, formula(1, long), nil)
	refused(t, formula(1, long[:api.MaxLits], list(1)), list(1))
	// A clause of a log or a goal may be as long as it likes.
	f := formula(2, list(1, 2), list(1, -2))
	if ok, err := proof.Proves(f, long, step(long...), gone(long...)); !ok || err != api.OK {
		t.Error(ok, err)
	}
}

func TestClausesThatCantBe(t *testing.T) {
	f := formula(3, list(1), list(-1, 2))
	for _, l := range noLits(3) {
		refused(t, f, list(l))
		refused(t, f, list(1, -1, l))
		refused(t, f, list(l, 2), step(2))
		refused(t, f, list(l), step(3))
		for _, c := range [][]api.Lit{{l}, {2, l}, {1, -1, l}, {l, l}} {
			refused(t, f, nil, step(c...))
			refused(t, f, nil, gone(c...))
			// Ahead of all else: also behind Steps that aren't so.
			refused(t, f, nil, step(3), gone(c...))
			refused(t, f, nil, gone(3), step(2), step(c...))
			refused(t, f, list(2), step(2), gone(c...))
		}
	}
	refused(t, formula(0), nil, step(1))
	refused(t, formula(0), nil, gone(-1))
	refused(t, formula(0), list(1))
}

func TestWhatIsRefusedElsewhereIsRight(t *testing.T) {
	is(t, formula(0), nil)
	is(t, formula(0, nil), nil, step(), gone(), gone(), step())
	is(t, formula(3, list(1, 1, -1), list(2, -2)), list(3, -3), step(3, -3, 1), gone(3, 1, -3, 3), gone(1, -1))
}

// P9.1

func TestTheChaptersExample(t *testing.T) {
	f := formula(2, list(1, 2), list(1, -2))
	for _, c := range []struct {
		clause []api.Lit
		want   bool
	}{{list(1), true}, {list(2), false}, {list(-1), false}, {list(-2), false}, {nil, false}, {list(1, 2), true}} {
		if ok, err := proof.Follows(f, c.clause...); ok != c.want || err != api.OK {
			t.Error(c.clause, ok, err)
		}
	}
}

func TestFollows(t *testing.T) {
	chain := formula(6, list(-1, 2), list(-2, 3), list(-3, -1, 4), list(-4, -3, 5))
	facts := formula(5, list(1), list(-1, 2), list(-2, -3))
	never := formula(3, list(1), list(-1, 2), list(-1, -2))
	for _, c := range []struct {
		f      api.Formula
		clause []api.Lit
		want   bool
	}{
		{chain, list(-1, 5), true},
		{chain, list(5, -1), true},
		{chain, list(-1, 2), true},
		{chain, list(-2, 3), true},
		{chain, list(-2, 5), false},
		{chain, list(1, 5), false},
		{chain, list(-1, 6), false},
		{chain, list(-1, 6, 5), true},
		{chain, list(-1, -1, 5, 5), true},
		{chain, list(6, -6), true},
		{chain, list(6, 3, 2, -6), true},
		{chain, nil, false},
		{facts, list(1), true},
		{facts, list(2), true},
		{facts, list(-3), true},
		{facts, list(3), false},
		{facts, list(-1), false},
		{facts, list(4, -3), true},
		{facts, list(4), false},
		{facts, list(-4, -1, -2, 3), false},
		{facts, list(-4, -1, -2, -3), true},
		{facts, list(5, -5), true},
		{facts, nil, false},
		{never, nil, true},
		{never, list(3), true},
		{never, list(-1, 2), true},
		{formula(1, nil), nil, true},
		{formula(1, nil), list(1), true},
		{formula(1), nil, false},
		{formula(1), list(1), false},
		{formula(1), list(1, -1), true},
		{formula(2, list(1, -1, 2)), list(2), false},
		{formula(2, list(1, -1)), list(1), false},
		{formula(2, list(1, 1, 1)), list(1), true},
		// Each value will do or none, but that isn't seen by what follows alone.
		{formula(3, list(1, 2), list(1, -2), list(-1, 2), list(-1, -2)), nil, false},
		{formula(3, list(1, 2), list(1, -2), list(-1, 2), list(-1, -2)), list(1), true},
		{formula(3, list(1, 2, 3), list(1, 2, -3), list(1, -2, 3), list(1, -2, -3)), list(1), false},
		{formula(3, list(1, 2, 3), list(1, 2, -3), list(1, -2, 3), list(1, -2, -3)), list(1, 2), true},
	} {
		if ok, err := proof.Follows(c.f, c.clause...); ok != c.want || err != api.OK {
			t.Error(c.f, c.clause, ok, err)
		}
		is(t, c.f, c.clause)
	}
}

func TestFollowsOfAllClausesOfTwoVariables(t *testing.T) {
	all := [][]api.Lit{{}, {1}, {-1}, {2}, {-2}, {1, 2}, {1, -2}, {-1, 2}, {-1, -2}, {1, -1}, {2, 1, -2}}
	for n := range 1 << len(all) {
		f := formula(2)
		for i, c := range all {
			if n>>i&1 == 1 {
				f.Clauses = append(f.Clauses, c)
			}
		}
		for _, c := range all {
			if ok, err := proof.Follows(f, c...); ok != follows(f.Clauses, c) || err != api.OK {
				t.Fatal(f, c, ok, err)
			}
		}
	}
}

func TestFollowsOfManyFormulas(t *testing.T) {
	yes, no := 0, 0
	for seed := range 3000 {
		c := chance(seed)
		vars := 2 + seed%9
		f := anyFormula(c, vars, vars*(1+seed%3), 2+seed%3)
		for k := range 6 {
			clause := anyLits(c, vars, k)
			ok, err := proof.Follows(f, clause...)
			if ok != follows(f.Clauses, clause) || err != api.OK {
				t.Fatal(f, clause, ok, err)
			}
			if ok {
				yes++
			} else {
				no++
			}
		}
	}
	if yes < 3000 || no < 3000 {
		t.Error(yes, no)
	}
}

// chain: of each variable the next one follows.
func chain(vars int) api.Formula {
	f := formula(vars)
	for v := 1; v < vars; v++ {
		f.Clauses = append(f.Clauses, list(-api.Lit(v), api.Lit(v+1)))
	}
	return f
}

func TestFollowsOfAsManyVariablesAsMayBe(t *testing.T) {
	const last = api.MaxVars - 1
	f := chain(last)
	for _, c := range []struct {
		clause []api.Lit
		want   bool
	}{{list(-1, last), true}, {list(1, -last), false}, {list(-last, last-1), false}, {list(-last+1, last), true}} {
		if ok, err := proof.Follows(f, c.clause...); ok != c.want || err != api.OK {
			t.Error(c.clause, ok, err)
		}
	}
	refused(t, f, list(api.MaxVars))
	refused(t, f, nil, gone(-api.MaxVars))
	f.Vars++
	refused(t, f, list(1))
	log := []api.Step{step(-1, last), gone(-last+1, last), step(-2, last), step(last, -1)}
	f.Vars--
	if at, err := proof.Check(f, log...); at != 2 || err != api.OK {
		t.Error(at, err)
	}
	all := make([]api.Lit, last)
	for i := range all {
		all[i] = api.Lit(i + 1)
	}
	if ok, err := proof.Follows(f, all...); ok || err != api.OK {
		t.Error(ok, err)
	}
	all[0] = -1
	if ok, err := proof.Follows(f, all...); !ok || err != api.OK {
		t.Error(ok, err)
	}
}

// P9.2

func TestCheck(t *testing.T) {
	f := formula(4, list(1, 2), list(-1, 2), list(-2, 3), list(-3, 4, -4))
	for _, c := range []struct {
		log  []api.Step
		want int
	}{
		{nil, -1},
		{[]api.Step{step(2)}, -1},
		{[]api.Step{step(1)}, 0},
		{[]api.Step{step()}, 0},
		{[]api.Step{step(2), step(3), step(4)}, 2},
		{[]api.Step{step(4, -4)}, -1},
		{[]api.Step{step(4, -4), gone(-4, 4, 4), gone(4, -4)}, 2},
		// What was at hand for the formula is taken as well as what came by the log.
		{[]api.Step{gone(2, 1)}, -1},
		{[]api.Step{gone(2, 1), step(2)}, 1},
		{[]api.Step{gone(2, 1), gone(1, 2)}, 1},
		{[]api.Step{gone(1)}, 0},
		{[]api.Step{gone()}, 0},
		{[]api.Step{gone(1, 2, 3)}, 0},
		{[]api.Step{gone(1, -2)}, 0},
		{[]api.Step{gone(-3, 4, -4), gone(-3)}, 1},
		// One of two with the same literals is left.
		{[]api.Step{step(1, 2), gone(2, 1), step(2), gone(2, 2), gone(1, 2), step(2)}, 5},
		{[]api.Step{step(2, 1, 2), gone(1, 2), gone(1, 2, 1), gone(1, 2)}, 3},
		// What was learnt holds up what it came of, but not once it is Gone, too.
		{[]api.Step{step(2), gone(1, 2), gone(2, -1), step(3)}, -1},
		{[]api.Step{step(2), gone(1, 2), gone(2), step(3)}, 3},
		{[]api.Step{step(3), gone(3), gone(2, 1), step(3)}, 3},
		{[]api.Step{step(3), gone(2, 1), step(3), gone(3), step(3), gone(3), gone(3), step(3)}, 7},
		{[]api.Step{step(2), step(3), gone(-2, 3), step(3), gone(3), gone(3), step(3)}, 6},
		{[]api.Step{step(-1), step(3)}, 0},
	} {
		if at := is(t, f, list(3), c.log...); at != c.want {
			t.Error(c.log, at, c.want)
		}
	}
}

func TestCheckWhereNoValuesWillDo(t *testing.T) {
	f := formula(3, list(1, 2), list(1, -2), list(-1, 2), list(-1, -2))
	for _, c := range []struct {
		log  []api.Step
		want int
	}{
		{[]api.Step{step()}, 0},
		{[]api.Step{step(1), step()}, -1},
		{[]api.Step{step(1), step(3), step(-3), gone(3), step(), gone(-3)}, -1},
		{[]api.Step{step(1), gone(1, 2), step(), gone(1, -2), step(2), gone(), step(-2)}, -1},
		{[]api.Step{step(1), step(), gone(1), step(3), gone(), step(-3)}, 5},
		{[]api.Step{step(1), gone(1), step(3)}, 2},
		{[]api.Step{step(1), step(3), gone(1), step(-3), step(-1, 3)}, 3},
		{[]api.Step{step(1), gone(2, 1), step(), step(3), gone(3), gone(), gone(3)}, 6},
		{[]api.Step{step(1), step(2), gone(1), gone(-1, -2), step(1), step()}, 5},
		{[]api.Step{step(1), step(2), gone(-1, -2), step()}, 3},
		{[]api.Step{step(1), gone(-1, 2), step(), gone(1), gone(1)}, 2},
	} {
		if at := is(t, f, nil, c.log...); at != c.want {
			t.Error(c.log, at, c.want)
		}
	}
}

func TestCheckOfManyLogs(t *testing.T) {
	right, steps := 0, 0
	for seed := range 1500 {
		c := chance(seed)
		vars := 2 + seed%5
		f := anyFormula(c, vars, vars*(1+seed%3), 3)
		log := anyLog(c, f, 12)
		if is(t, f, anyLits(c, vars, c.IntN(3)), log...) == -1 {
			right++
		}
		steps += len(log)
	}
	if right < 1000 || right == 1500 || steps < 10000 {
		t.Error(right, steps)
	}
}

func TestCheckOfLogsWithMistakes(t *testing.T) {
	wrong := 0
	for seed := range 400 {
		c := chance(seed)
		f := anyFormula(c, 5, 12, 3)
		log := anyLog(c, f, 10)
		for range 4 {
			other := copiedLog(log)
			i := c.IntN(max(1, len(other)))
			switch c.IntN(4) {
			case 0:
				other[i].Clause = anyLits(c, 5, 2)
			case 1:
				other[i].Gone = !other[i].Gone
			case 2:
				other = slices.Delete(other, i, i+1)
			default:
				j := c.IntN(len(other))
				other[i], other[j] = other[j], other[i]
			}
			if is(t, f, nil, other...) >= 0 {
				wrong++
			}
		}
	}
	if wrong < 400 {
		t.Error(wrong)
	}
}

// holes says that so many pigeons have holes of their own, of which there is one fewer.
func holes(pigeons int) api.Formula {
	n := pigeons - 1
	at := func(p, h int) api.Lit { return api.Lit(p*n + h + 1) }
	f := formula(pigeons * n)
	for p := range pigeons {
		var one []api.Lit
		for h := range n {
			one = append(one, at(p, h))
			for q := range p {
				f.Clauses = append(f.Clauses, list(-at(p, h), -at(q, h)))
			}
		}
		f.Clauses = append(f.Clauses, one)
	}
	return f
}

// solved is the log of a Solver behind a few Solves.
func solved(f api.Formula, o api.Options, assumed ...[]api.Lit) (*sat.Solver, int) {
	s := sat.New(o)
	for range f.Vars {
		s.Var()
	}
	for _, c := range f.Clauses {
		s.Add(c...)
	}
	answer := sat.Unknown
	for _, a := range assumed {
		answer, _ = s.Solve(-1, a...)
	}
	return s, answer
}

func TestSolversLogsAreRight(t *testing.T) {
	for _, o := range []api.Options{{}, {Unit: 5, Reduce: 10}, {Seed: 7, Unit: 1, Reduce: 1}, {Seed: 1, Unit: 100, Reduce: 1000}} {
		for pigeons := 1; pigeons <= 6; pigeons++ {
			f := holes(pigeons)
			s, answer := solved(f, o, nil)
			log := s.Log()
			if answer != sat.No || len(log) == 0 {
				t.Fatal(o, pigeons, answer)
			}
			isRight(t, f, nil, log)
			// Without its last clause there are values, and so something in the log doesn't follow.
			fewer := formula(f.Vars, f.Clauses[:len(f.Clauses)-1]...)
			if at, err := proof.Check(fewer, log...); at == -1 || err != api.OK {
				t.Error(o, pigeons, at, err)
			}
		}
		for seed := range 20 {
			c := chance(seed)
			f := anyFormula(c, 25, 100, 4)
			for k := range 5 {
				s, answer := solved(f, o, anyLits(c, 25, 3), anyLits(c, 25, k), anyLits(c, 25, k))
				if answer == sat.No {
					isRight(t, f, opposites(s.Core()), s.Log())
				}
			}
		}
	}
}

// isRight: the log has no mistake, says what it should, and needs no more than Needed tells.
func isRight(t *testing.T, f api.Formula, goal []api.Lit, log []api.Step) {
	t.Helper()
	if at, err := proof.Check(f, log...); at != -1 || err != api.OK {
		t.Fatal("Check", at, err)
	}
	if ok, err := proof.Proves(f, goal, log...); !ok || err != api.OK {
		t.Fatal("Proves", goal, ok, err)
	}
	steps, err := proof.Needed(f, log...)
	if err != api.OK {
		t.Fatal("Needed", err)
	}
	isNeeded(t, f, log, steps)
}

func opposites(l []api.Lit) []api.Lit {
	var all []api.Lit
	for _, x := range l {
		all = append(all, -x)
	}
	return all
}

// P9.3

func TestProves(t *testing.T) {
	f := formula(4, list(1, 2, 3), list(1, 2, -3), list(1, -2, 3), list(1, -2, -3), list(-1, 4))
	for _, c := range []struct {
		goal []api.Lit
		log  []api.Step
		want bool
	}{
		{list(1), nil, false},
		{list(1), []api.Step{step(1, 2)}, true},
		{list(4), nil, false},
		{list(4), []api.Step{step(1, 2)}, true},
		{list(4), []api.Step{step(1, 2), step(1)}, true},
		{list(4, 3), []api.Step{step(1, 2), step(1)}, true},
		{list(3), []api.Step{step(1, 2), step(1)}, false},
		{nil, []api.Step{step(1, 2), step(1)}, false},
		{list(3, -3), nil, true},
		{list(3, -3), []api.Step{step(2)}, false},
		// Behind the last Step, not ahead of it.
		{list(4), []api.Step{step(1, 2), step(1), gone(4, -1)}, false},
		{list(1), []api.Step{step(1, 2), step(1), gone(1, 2)}, true},
		{list(1), []api.Step{step(1, 2), step(1), gone(1), gone(2, 1)}, false},
		// Nothing is proved by a log with a mistake.
		{list(4), []api.Step{step(1)}, false},
		{list(4), []api.Step{step(1, 2), step(1), step(2)}, false},
		{list(4), []api.Step{step(1, 2), step(1), gone(2)}, false},
	} {
		if ok, err := proof.Proves(f, c.goal, c.log...); ok != c.want || err != api.OK {
			t.Error(c.goal, c.log, ok, err)
		}
		is(t, f, c.goal, c.log...)
	}
}

// P9.4

func TestNeeded(t *testing.T) {
	f := formula(6, list(1, 2), list(-1, 2), list(-2, 3), list(4, 5), list(4, -5), list(-4, 6))
	for _, c := range []struct {
		log  []api.Step
		want []int
	}{
		{nil, nil},
		{[]api.Step{gone(1, 2)}, nil},
		{[]api.Step{step(2)}, []int{0}},
		{[]api.Step{step(2), step(3)}, []int{0, 1}},
		{[]api.Step{step(2), step(4), step(3)}, []int{0, 2}},
		{[]api.Step{step(2), step(4), step(6)}, []int{1, 2}},
		{[]api.Step{step(2), step(4), step(-6, 3)}, []int{0, 2}},
		{[]api.Step{step(2), step(4), step(3), step(6), gone(2), gone(3)}, []int{1, 3}},
		{[]api.Step{step(2), gone(1, 2), step(4), gone(1, -1), step(3)}, nil},
		{[]api.Step{step(2), gone(1, 2), step(4), gone(4), step(3)}, []int{0, 4}},
		// It follows of the formula, whatever was learnt ahead of it.
		{[]api.Step{step(2), step(3), step(5, 4)}, []int{2}},
		{[]api.Step{step(2), step(4), step(1, -1)}, []int{2}},
		{[]api.Step{step(1, 2), gone(1, 2), step(2)}, []int{2}},
	} {
		want, e := c.want, api.OK
		if at, _ := walk(f, c.log); at >= 0 {
			e = api.ErrProof
		}
		if steps, err := proof.Needed(f, c.log...); !slices.Equal(steps, want) || err != e {
			t.Error(c.log, steps, err)
		}
		is(t, f, nil, c.log...)
	}
}

func TestNeededWhereNoValuesWillDo(t *testing.T) {
	f := formula(5, list(1, 2), list(1, -2), list(-1, 2), list(-1, -2), list(3, 4), list(3, -4))
	for _, c := range []struct {
		log  []api.Step
		want []int
	}{
		{[]api.Step{step(3), step(1), step()}, []int{1, 2}},
		{[]api.Step{step(3), step(2), step(3), step(3, 4), step(5)}, []int{1, 4}},
		{[]api.Step{step(3), step(1), step(5), gone(3), gone(5), step(-4)}, []int{1, 5}},
		{[]api.Step{step(1), step(5), gone(1), gone(5), step(3)}, []int{4}},
	} {
		is(t, f, nil, c.log...)
		if steps, err := proof.Needed(f, c.log...); !slices.Equal(steps, c.want) || err != api.OK {
			t.Error(c.log, steps, err)
		}
	}
	// There is more than one conflict: any will do.
	is(t, f, nil, step(3), step(1), step(5), step(-5), gone(3), step(4))
}

func TestNeededRefusesAMistake(t *testing.T) {
	f := formula(3, list(1, 2), list(-1, 2))
	for _, log := range [][]api.Step{{step(1)}, {step(2), gone(1)}, {gone(2), step(2)}, {step(2), step(2, 3), step(3), step(2)}} {
		if steps, err := proof.Needed(f, log...); len(steps) != 0 || err != api.ErrProof {
			t.Error(log, steps, err)
		}
	}
}

func TestNeededIsFewOfMany(t *testing.T) {
	// Of two chains that have nothing to do with each other, one.
	const many = 300
	f := formula(4*many, list(1), list(2*many+1))
	var log []api.Step
	for i := api.Lit(1); i < many; i++ {
		for _, from := range []api.Lit{2*i - 1, 2*many + 2*i - 1} {
			f.Clauses = append(f.Clauses, list(-from, from+1, from+2), list(-from, -from-1, from+2))
			log = append(log, step(from+2))
		}
	}
	steps, err := proof.Needed(f, log...)
	if err != api.OK || len(steps) != many-1 {
		t.Fatal(len(steps), err)
	}
	for i, n := range steps {
		if n != 2*i+1 {
			t.Fatal(i, n)
		}
	}
}

// P9.5: is looks at all values of each log that is right; here, that nothing that doesn't hold is let through.

func TestWhatDoesntHoldIsRefused(t *testing.T) {
	refusals := 0
	for seed := range 500 {
		c := chance(seed)
		f := anyFormula(c, 4, 6, 3)
		for n := range 16 {
			values := list(1, 2, 3, 4)
			for i := range values {
				if n>>i&1 == 0 {
					values[i] = -values[i]
				}
			}
			if slices.ContainsFunc(f.Clauses, func(l []api.Lit) bool { return !meet(l, values) }) {
				continue
			}
			wrong := opposites(values[:1+c.IntN(4)])
			if at, err := proof.Check(f, step(wrong...)); at != 0 || err != api.OK {
				t.Fatal(f, values, wrong, at, err)
			}
			if ok, err := proof.Proves(f, wrong, anyLog(c, f, 3)...); ok || err != api.OK {
				t.Fatal(f, values, wrong, ok, err)
			}
			refusals++
		}
	}
	if refusals < 500 {
		t.Error(refusals)
	}
}

func meet(a, b []api.Lit) bool {
	return slices.ContainsFunc(a, func(l api.Lit) bool { return slices.Contains(b, l) })
}
