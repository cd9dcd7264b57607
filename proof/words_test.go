package proof_test

import (
	"math/rand/v2"
	"slices"
	"testing"

	"lariat/api"
	"lariat/proof"
)

// follows works out from the words whether there is a conflict, once all of a clause is false.
func follows(clauses [][]api.Lit, clause []api.Lit) bool {
	fact := map[api.Lit]bool{}
	for _, l := range clause {
		fact[-l] = true
	}
	// What the clause says by both signs, can't all be false.
	for l := range fact {
		if fact[-l] {
			return true
		}
	}
	for more := true; more; {
		more = false
		for _, c := range clauses {
			left, open := leftOf(c, fact)
			switch {
			case !open || len(left) > 1:
			case len(left) == 0:
				return true
			default:
				fact[left[0]] = true
				more = true
			}
		}
	}
	return false
}

// leftOf: the literals of a clause that aren't false; false, if one is true, or a variable is in it by both signs.
func leftOf(clause []api.Lit, fact map[api.Lit]bool) ([]api.Lit, bool) {
	var left []api.Lit
	for _, l := range clause {
		if fact[l] || slices.Contains(clause, -l) {
			return nil, false
		}
		if !fact[-l] && !slices.Contains(left, l) {
			left = append(left, l)
		}
	}
	return left, true
}

// walk works out from the words which Step is the first that isn't so, and what is at hand there.
func walk(f api.Formula, log []api.Step) (int, [][]api.Lit) {
	hand := slices.Clone(f.Clauses)
	for i, s := range log {
		if !s.Gone {
			if !follows(hand, s.Clause) {
				return i, hand
			}
			hand = append(hand, s.Clause)
			continue
		}
		at := slices.IndexFunc(hand, func(c []api.Lit) bool { return sameLits(c, s.Clause) })
		if at < 0 {
			return i, hand
		}
		hand = slices.Delete(hand, at, at+1)
	}
	return -1, hand
}

// is holds what is answered of a log and a goal against the words, and answers the first Step that isn't so.
func is(t *testing.T, f api.Formula, goal []api.Lit, log ...api.Step) int {
	t.Helper()
	wasF, wasGoal, wasLog := copied(f), slices.Clone(goal), copiedLog(log)
	want, hand := walk(f, log)
	at, err := proof.Check(f, log...)
	if at != want || err != api.OK {
		t.Fatal("Check", f, log, at, want, err)
	}
	proves := want == -1 && follows(hand, goal)
	if ok, err := proof.Proves(f, goal, log...); ok != proves || err != api.OK {
		t.Fatal("Proves", f, log, goal, ok, proves, err)
	}
	if ok, err := proof.Follows(f, goal...); ok != follows(f.Clauses, goal) || err != api.OK {
		t.Fatal("Follows", f, goal, ok, err)
	}
	steps, err := proof.Needed(f, log...)
	if want == -1 {
		if err != api.OK {
			t.Fatal("Needed", f, log, err)
		}
		isNeeded(t, f, log, steps)
		holdsWhereverAllDo(t, f, log)
	} else if err != api.ErrProof || len(steps) != 0 {
		t.Fatal("Needed", f, log, steps, err)
	}
	if !sameFormula(f, wasF) || !slices.Equal(goal, wasGoal) || !slices.EqualFunc(log, wasLog, sameStep) {
		t.Fatal("changed what was handed in")
	}
	return want
}

// isNeeded looks at all that the words say of the Steps that a log needs.
func isNeeded(t *testing.T, f api.Formula, log []api.Step, steps []int) {
	t.Helper()
	last := -1
	for i, s := range log {
		if !s.Gone {
			last = i
		}
	}
	if last == -1 {
		if len(steps) != 0 {
			t.Fatal("Needed of none", f, log, steps)
		}
		return
	}
	if len(steps) == 0 || steps[len(steps)-1] != last {
		t.Fatal("Needed", f, log, steps, "without", last)
	}
	var some []api.Step
	for i, n := range steps {
		if n < 0 || n >= len(log) || log[n].Gone || i > 0 && steps[i-1] >= n {
			t.Fatal("Needed", f, log, steps)
		}
		some = append(some, log[n])
	}
	if at, _ := walk(f, some); at != -1 {
		t.Fatal("Needed", f, log, steps, "but not", some[at])
	}
}

// holdsWhereverAllDo looks at all values, if these aren't too many, whether each Clause of a log holds where the formula does.
func holdsWhereverAllDo(t *testing.T, f api.Formula, log []api.Step) {
	t.Helper()
	if f.Vars > 6 {
		return
	}
	for n := range 1 << f.Vars {
		wrong := func(c []api.Lit) bool {
			return !slices.ContainsFunc(c, func(l api.Lit) bool { return n>>(abs(l)-1)&1 == 1 == (l > 0) })
		}
		if slices.ContainsFunc(f.Clauses, wrong) {
			continue
		}
		for _, s := range log {
			if wrong(s.Clause) {
				t.Fatal(f, log, "but", s.Clause, "doesn't hold with", n)
			}
		}
	}
}

func abs(l api.Lit) int {
	return max(int(l), -int(l))
}

func list(l ...api.Lit) []api.Lit { return l }

func step(l ...api.Lit) api.Step { return api.Step{Clause: l} }

func gone(l ...api.Lit) api.Step { return api.Step{Gone: true, Clause: l} }

func formula(vars int, clauses ...[]api.Lit) api.Formula {
	return api.Formula{Vars: vars, Clauses: clauses}
}

// sameLits: in whichever order, and how often doesn't matter.
func sameLits(a, b []api.Lit) bool {
	return !slices.ContainsFunc(a, func(l api.Lit) bool { return !slices.Contains(b, l) }) &&
		!slices.ContainsFunc(b, func(l api.Lit) bool { return !slices.Contains(a, l) })
}

func sameStep(a, b api.Step) bool {
	return a.Gone == b.Gone && slices.Equal(a.Clause, b.Clause)
}

func sameFormula(a, b api.Formula) bool {
	return a.Vars == b.Vars && slices.EqualFunc(a.Clauses, b.Clauses, slices.Equal[[]api.Lit])
}

func copied(f api.Formula) api.Formula {
	clauses := slices.Clone(f.Clauses)
	for i, c := range clauses {
		clauses[i] = slices.Clone(c)
	}
	return formula(f.Vars, clauses...)
}

func copiedLog(log []api.Step) []api.Step {
	log = slices.Clone(log)
	for i := range log {
		log[i].Clause = slices.Clone(log[i].Clause)
	}
	return log
}

// chance is numbers that come in the same order each time.
func chance(seed int) *rand.Rand {
	return rand.New(rand.NewPCG(uint64(seed), 9))
}

func anyLits(c *rand.Rand, vars, many int) []api.Lit {
	lits := make([]api.Lit, many)
	for i := range lits {
		lits[i] = api.Lit(1+c.IntN(vars)) * api.Lit(1-2*c.IntN(2))
	}
	return lits
}

func anyFormula(c *rand.Rand, vars, many, most int) api.Formula {
	f := formula(vars)
	for range many {
		f.Clauses = append(f.Clauses, anyLits(c, vars, 1+c.IntN(most)))
	}
	return f
}

// anyLog is Steps that are so, and seldom one that isn't.
func anyLog(c *rand.Rand, f api.Formula, many int) []api.Step {
	var log []api.Step
	for len(log) < many {
		_, hand := walk(f, log)
		if c.IntN(3) == 0 && len(hand) > 0 {
			log = append(log, gone(shuffled(c, hand[c.IntN(len(hand))])...))
			continue
		}
		clause := anyLits(c, f.Vars, c.IntN(4))
		for range 8 {
			if follows(hand, clause) {
				break
			}
			clause = anyLits(c, f.Vars, 1+c.IntN(3))
		}
		if follows(hand, clause) || c.IntN(8) == 0 {
			log = append(log, step(clause...))
		} else if c.IntN(8) == 0 {
			log = append(log, gone(clause...))
		} else {
			many--
		}
	}
	return log
}

// shuffled: the same literals in another order, some of them more than once.
func shuffled(c *rand.Rand, clause []api.Lit) []api.Lit {
	all := slices.Clone(clause)
	for _, l := range clause {
		if c.IntN(4) == 0 {
			all = append(all, l)
		}
	}
	c.Shuffle(len(all), func(i, j int) { all[i], all[j] = all[j], all[i] })
	return all
}
