package learn_test

import (
	"math/rand/v2"
	"slices"
	"testing"

	"lariat/api"
	"lariat/learn"
	"lariat/watch"
)

func list(l ...api.Lit) []api.Lit { return l }

func abs(l api.Lit) int {
	return max(int(l), -int(l))
}

// with is an Engine with clauses.
func with(t *testing.T, vars int, clauses ...[]api.Lit) *watch.Engine {
	t.Helper()
	e := watch.New(vars)
	for _, c := range clauses {
		add(t, e, c...)
	}
	return e
}

func add(t *testing.T, e *watch.Engine, clause ...api.Lit) int {
	t.Helper()
	id, err := e.Add(clause...)
	if err != api.OK {
		t.Fatal("Add", clause, err)
	}
	return id
}

// decide does so one by one, and asks nothing of what follows.
func decide(t *testing.T, e *watch.Engine, decided ...api.Lit) {
	t.Helper()
	for _, l := range decided {
		if err := e.Decide(l); err != api.OK {
			t.Fatal("Decide", l, err)
		}
	}
}

// clash decides one by one, asks each time what follows, and answers the conflict behind the last one.
func clash(t *testing.T, e *watch.Engine, decided ...api.Lit) int {
	t.Helper()
	for _, l := range decided {
		settled(t, e)
		decide(t, e, l)
	}
	id := e.Propagate()
	if id < 0 {
		t.Fatal("no conflict", e.True())
	}
	return id
}

func settled(t *testing.T, e *watch.Engine) {
	t.Helper()
	if id := e.Propagate(); id != -1 {
		t.Fatal("too early", id, e.True())
	}
}

// isConflict says from the words whether there is something to be learnt of it, and the greatest level of its literals.
func isConflict(e *watch.Engine, id int) (int, bool) {
	clause, ok := e.Clause(id)
	top := 0
	for _, l := range clause {
		if e.Value(l) != -1 {
			return 0, false
		}
		top = max(top, e.Level(abs(l)))
	}
	return top, ok && top > 0
}

// follows works out from the words whether there is a conflict, once all of a clause is false.
func follows(e *watch.Engine, clause []api.Lit) bool {
	value := map[int]api.Lit{}
	for _, l := range clause {
		value[abs(l)] = -l
	}
	var all [][]api.Lit
	for id := range e.Len() {
		if c, ok := e.Clause(id); ok {
			all = append(all, c)
		}
	}
	for more := true; more; {
		more = false
		for _, c := range all {
			holds := false
			var left []api.Lit
			for _, l := range c {
				holds = holds || value[abs(l)] == l
				if value[abs(l)] == 0 {
					left = append(left, l)
				}
			}
			switch {
			case holds || len(left) > 1:
			case len(left) == 0:
				return true
			default:
				value[abs(left[0])] = left[0]
				more = true
			}
		}
	}
	return false
}

// spared says from the words whether a literal can be left out of a clause because of its Reason alone.
func spared(e *watch.Engine, clause []api.Lit, l api.Lit) bool {
	reason, ok := e.Clause(e.Reason(abs(l)))
	if !ok {
		return false
	}
	for _, why := range reason {
		inIt := slices.ContainsFunc(clause, func(x api.Lit) bool { return abs(x) == abs(why) })
		if abs(why) != abs(l) && e.Level(abs(why)) != 0 && !inIt {
			return false
		}
	}
	return true
}

// picture is all that can be told of an Engine.
func picture(e *watch.Engine) [][]api.Lit {
	all := [][]api.Lit{e.True(), {api.Lit(e.Vars()), api.Lit(e.Depth()), api.Lit(e.Len())}}
	for v := range e.Vars() {
		all = append(all, list(api.Lit(e.Value(api.Lit(v+1))), api.Lit(e.Level(v+1)), api.Lit(e.Reason(v+1))))
	}
	for id := range e.Len() {
		c, ok := e.Clause(id)
		if !ok {
			c = list(0)
		}
		all = append(all, c)
	}
	return all
}

func samePicture(a, b [][]api.Lit) bool {
	return slices.EqualFunc(a, b, slices.Equal[[]api.Lit])
}

// refused looks whether nothing is learnt.
func refused(t *testing.T, e *watch.Engine, id int) {
	t.Helper()
	if l, back, err := learn.Learn(e, id); len(l) != 0 || back != 0 || err != api.ErrLearn {
		t.Fatal("Learn", id, l, back, err, e.True())
	}
}

// learnt looks at all that the words say of what is learnt, and answers it.
func learnt(t *testing.T, e *watch.Engine, id int) ([]api.Lit, int) {
	t.Helper()
	top, ok := isConflict(e, id)
	was := picture(e)
	clause, back, err := learn.Learn(e, id)
	if err != api.OK || !ok {
		t.Fatal("Learn", id, clause, back, err, e.True())
	}
	if !samePicture(was, picture(e)) {
		t.Fatal("changed", id, e.True())
	}
	again, backAgain, errAgain := learn.Learn(e, id)
	if !slices.Equal(again, clause) || backAgain != back || errAgain != api.OK {
		t.Fatal("other than before", id, clause, again, back, backAgain)
	}
	if len(clause) == 0 || e.Level(abs(clause[0])) != top {
		t.Fatal("the first one", clause, top, e.True())
	}
	greatest := 0
	for i, l := range clause {
		level := e.Level(abs(l))
		if e.Value(l) != -1 || level <= 0 || i > 0 && level >= top {
			t.Fatal(l, "in", clause, "has the level", level, "of", top, e.True())
		}
		if i > 0 {
			greatest = max(greatest, level)
		}
		if slices.ContainsFunc(clause[:i], func(x api.Lit) bool { return abs(x) == abs(l) }) {
			t.Fatal("twice", l, clause)
		}
		if i > 0 && spared(e, clause, l) {
			t.Fatal(l, "can be left out of", clause, e.True())
		}
	}
	if back != greatest {
		t.Fatal("level", back, greatest, clause)
	}
	if !follows(e, clause) {
		t.Fatal("doesn't follow", clause, e.True())
	}
	return clause, back
}

// each asks of each clause, and of two numbers of none; how many were conflicts.
func each(t *testing.T, e *watch.Engine) int {
	t.Helper()
	conflicts := 0
	for id := -1; id <= e.Len(); id++ {
		if _, ok := isConflict(e, id); !ok {
			refused(t, e, id)
			continue
		}
		learnt(t, e, id)
		conflicts++
	}
	return conflicts
}

// chance is numbers that come in the same order each time.
func chance(seed int) *rand.Rand {
	return rand.New(rand.NewPCG(uint64(seed), 6))
}

func anyLit(c *rand.Rand, vars int) api.Lit {
	return api.Lit(1+c.IntN(vars)) * api.Lit(1-2*c.IntN(2))
}

func anyClause(c *rand.Rand, vars, most int) []api.Lit {
	lits := make([]api.Lit, 1+c.IntN(most))
	for i := range lits {
		lits[i] = anyLit(c, vars)
	}
	return lits
}
