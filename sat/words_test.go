package sat_test

import (
	"math/rand/v2"
	"slices"
	"testing"

	"lariat/api"
	"lariat/sat"
)

// told is a Solver, and what it was told, so that each answer can be held against the words.
type told struct {
	t       *testing.T
	s       *sat.Solver
	vars    int
	clauses [][]api.Lit
	log     []api.Step
	hand    [][]api.Lit // what was learnt and isn't forgotten
}

func begin(t *testing.T, o api.Options, vars int) *told {
	w := &told{t: t, s: sat.New(o)}
	for range vars {
		w.grow()
	}
	return w
}

// with is one with clauses.
func with(t *testing.T, o api.Options, vars int, clauses ...[]api.Lit) *told {
	t.Helper()
	w := begin(t, o, vars)
	for _, c := range clauses {
		w.add(c...)
	}
	return w
}

func (w *told) grow() {
	w.t.Helper()
	w.vars++
	if v := w.s.Var(); v != w.vars || w.s.Vars() != w.vars {
		w.t.Fatal("Var", v, w.vars, w.s.Vars())
	}
}

func (w *told) add(clause ...api.Lit) {
	w.t.Helper()
	was := slices.Clone(clause)
	if err := w.s.Add(clause...); err != api.OK || !slices.Equal(clause, was) {
		w.t.Fatal("Add", was, clause, err)
	}
	w.clauses = append(w.clauses, was)
}

// solve looks at all that the words say of an answer but whether it is the right one, and answers it.
func (w *told) solve(budget int, assume ...api.Lit) int {
	w.t.Helper()
	was, before := slices.Clone(assume), w.s.Conflicts()
	answer, err := w.s.Solve(budget, assume...)
	met := w.s.Conflicts() - before
	if err != api.OK || answer < sat.Unknown || answer > sat.No || !slices.Equal(assume, was) || met < 0 {
		w.t.Fatal("Solve", budget, was, assume, answer, err, met)
	}
	if answer == sat.Unknown && (budget < 0 || met < budget) {
		w.t.Fatal("Unknown", budget, met)
	}
	// None but the first one can be met where none may be.
	if budget >= 0 && met > max(budget, 1) {
		w.t.Fatal("too many conflicts", budget, met)
	}
	w.readLog()
	w.lookAtModel(answer, assume)
	w.lookAtCore(answer, assume)
	return answer
}

func (w *told) lookAtModel(answer int, assume []api.Lit) {
	w.t.Helper()
	model := w.s.Model()
	if answer != sat.Yes {
		if len(model) != 0 {
			w.t.Fatal("Model behind", answer, model)
		}
		return
	}
	if len(model) != w.vars {
		w.t.Fatal("Model", len(model), w.vars)
	}
	for _, c := range w.clauses {
		if !slices.ContainsFunc(c, func(l api.Lit) bool { return holds(model, l) }) {
			w.t.Fatal("Model", model, "but", c)
		}
	}
	for _, l := range assume {
		if !holds(model, l) {
			w.t.Fatal("Model", model, "but", l)
		}
	}
}

func (w *told) lookAtCore(answer int, assume []api.Lit) {
	w.t.Helper()
	core := w.s.Core()
	if answer != sat.No {
		if len(core) != 0 {
			w.t.Fatal("Core behind", answer, core)
		}
		return
	}
	for i, l := range core {
		if !slices.Contains(assume, l) || slices.Contains(core[:i], l) {
			w.t.Fatal("Core", core, "of", assume)
		}
	}
	for _, step := range slices.Backward(w.log) {
		if step.Gone {
			continue
		}
		if !sameLits(step.Clause, opposites(core)) {
			w.t.Fatal("the last Step is", step.Clause, "but the Core", core)
		}
		return
	}
	w.t.Fatal("no Step for the Core", core)
}

// readLog looks at the Steps that came since the last time.
func (w *told) readLog() {
	w.t.Helper()
	log := w.s.Log()
	if len(log) < len(w.log) || !slices.EqualFunc(log[:len(w.log)], w.log, sameStep) {
		w.t.Fatal("other Steps than before")
	}
	for i, step := range log[len(w.log):] {
		if step.Gone {
			at := slices.IndexFunc(w.hand, func(c []api.Lit) bool { return sameLits(c, step.Clause) })
			if at < 0 {
				w.t.Fatal("Step", len(w.log)+i, step.Clause, "was forgotten, but isn't there")
			}
			w.hand = slices.Delete(w.hand, at, at+1)
			continue
		}
		for _, l := range step.Clause {
			if l == 0 || abs(l) > w.vars {
				w.t.Fatal("Step", len(w.log)+i, step.Clause)
			}
		}
		if !follows(w.vars, slices.Concat(w.clauses, w.hand), step.Clause) {
			w.t.Fatal("Step", len(w.log)+i, step.Clause, "doesn't follow")
		}
		w.hand = append(w.hand, step.Clause)
	}
	w.log = copied(log)
}

// right is what should be answered, by looking at all values.
func (w *told) right(assume ...api.Lit) int {
	model := make([]bool, w.vars)
	for n := range 1 << w.vars {
		for v := range model {
			model[v] = n>>v&1 == 1
		}
		wrong := slices.ContainsFunc(assume, func(l api.Lit) bool { return !holds(model, l) })
		wrong = wrong || slices.ContainsFunc(w.clauses, func(c []api.Lit) bool {
			return !slices.ContainsFunc(c, func(l api.Lit) bool { return holds(model, l) })
		})
		if !wrong {
			return sat.Yes
		}
	}
	return sat.No
}

// is looks at an answer without a budget, and of a No whether its Core alone is enough.
func (w *told) is(assume ...api.Lit) int {
	w.t.Helper()
	answer, want := w.solve(-1, assume...), w.right(assume...)
	if answer != want {
		w.t.Fatal(w.clauses, assume, answer, want)
	}
	if answer == sat.No && w.right(w.s.Core()...) != sat.No {
		w.t.Fatal(w.clauses, assume, "Core", w.s.Core())
	}
	return answer
}

func (w *told) wants(want int, assume ...api.Lit) {
	w.t.Helper()
	if answer := w.is(assume...); answer != want {
		w.t.Fatal(assume, answer, want)
	}
}

// follows works out from the words whether there is a conflict, once all of a clause is false.
func follows(vars int, clauses [][]api.Lit, clause []api.Lit) bool {
	value := make([]int, vars+1)
	set := func(l api.Lit) bool {
		sign := 1
		if l < 0 {
			sign = -1
		}
		ok := value[abs(l)] != -sign
		value[abs(l)] = sign
		return ok
	}
	for _, l := range clause {
		if !set(-l) {
			return true
		}
	}
	for more := true; more; {
		more = false
		for _, c := range clauses {
			left, free, fits := api.Lit(0), 0, false
			for _, l := range c {
				switch v := value[abs(l)]; {
				case v != 0:
					fits = fits || v > 0 == (l > 0)
				case l != left:
					left = l
					free++
				}
			}
			switch {
			case fits || free > 1:
			case free == 0:
				return true
			default:
				set(left)
				more = true
			}
		}
	}
	return false
}

func holds(model []bool, l api.Lit) bool {
	return model[abs(l)-1] == (l > 0)
}

func abs(l api.Lit) int {
	return max(int(l), -int(l))
}

func list(l ...api.Lit) []api.Lit { return l }

func opposites(l []api.Lit) []api.Lit {
	var all []api.Lit
	for _, x := range l {
		all = append(all, -x)
	}
	return all
}

// sameLits: in whichever order, and how often doesn't matter.
func sameLits(a, b []api.Lit) bool {
	return !slices.ContainsFunc(a, func(l api.Lit) bool { return !slices.Contains(b, l) }) &&
		!slices.ContainsFunc(b, func(l api.Lit) bool { return !slices.Contains(a, l) })
}

func sameStep(a, b api.Step) bool {
	return a.Gone == b.Gone && slices.Equal(a.Clause, b.Clause)
}

// chance is numbers that come in the same order each time.
func chance(seed int) *rand.Rand {
	return rand.New(rand.NewPCG(uint64(seed), 8))
}

func anyLits(c *rand.Rand, vars, many int) []api.Lit {
	lits := make([]api.Lit, many)
	for i := range lits {
		lits[i] = api.Lit(1+c.IntN(vars)) * api.Lit(1-2*c.IntN(2))
	}
	return lits
}

// holes says that so many pigeons have holes of their own, of which there is one fewer: how many variables, and the clauses.
func holes(pigeons int) (int, [][]api.Lit) {
	n := pigeons - 1
	at := func(p, h int) api.Lit { return api.Lit(p*n + h + 1) }
	var all [][]api.Lit
	for p := range pigeons {
		var one []api.Lit
		for h := range n {
			one = append(one, at(p, h))
			for q := range p {
				all = append(all, list(-at(p, h), -at(q, h)))
			}
		}
		all = append(all, one)
	}
	return pigeons * n, all
}

// manyOptions is options from end to end.
func manyOptions() []api.Options {
	const most = int(^uint(0) >> 1)
	return []api.Options{
		{}, {Seed: 1}, {Seed: 1<<64 - 1, Unit: 1, Reduce: 1}, {Seed: 99, Unit: 2, Reduce: 5},
		{Unit: 100, Reduce: 2}, {Seed: 7, Unit: 1, Reduce: 1000}, {Seed: 12345, Unit: 30, Reduce: 300},
		{Unit: -1, Reduce: -1}, {Seed: 3, Unit: most, Reduce: most}, {Seed: 4, Unit: -most - 1, Reduce: -most - 1},
	}
}
