package sat_test

import (
	"math"
	"slices"
	"testing"

	"lariat/api"
	"lariat/pace"
	"lariat/sat"
)

// noLits is what is no literal of one of so many variables.
func noLits(vars int) []api.Lit {
	next := api.Lit(vars + 1)
	return []api.Lit{
		0, next, -next, next + 1, -next - 1, api.MaxVars + 1, -api.MaxVars - 1,
		math.MaxInt32, math.MinInt32, math.MinInt32 + 1, 1 << 30, -1 << 30,
	}
}

// picture is all that can be told of a Solver without changing it.
type picture struct {
	vars, conflicts int
	model           []bool
	core            []api.Lit
	log             []api.Step
}

// look copies all, so that a picture stays as it is, whatever it may share with the Solver.
func look(s *sat.Solver) picture {
	return picture{s.Vars(), s.Conflicts(), slices.Clone(s.Model()), slices.Clone(s.Core()), copied(s.Log())}
}

func copied(log []api.Step) []api.Step {
	log = slices.Clone(log)
	for i := range log {
		log[i].Clause = slices.Clone(log[i].Clause)
	}
	return log
}

func (p picture) same(q picture) bool {
	return p.vars == q.vars && p.conflicts == q.conflicts && slices.Equal(p.model, q.model) &&
		slices.Equal(p.core, q.core) && slices.EqualFunc(p.log, q.log, sameStep)
}

// refused looks whether wrong calls of all kinds are refused, and change nothing.
func refused(t *testing.T, s *sat.Solver) {
	t.Helper()
	was := look(s)
	for _, wrong := range noLits(s.Vars()) {
		for _, all := range [][]api.Lit{{wrong}, {wrong, wrong}, {1, wrong}, {wrong, -1}, {1, -1, wrong}, {-1, wrong, 1}} {
			if err := s.Add(all...); err != api.ErrSat {
				t.Fatal("Add", all, err)
			}
			for _, budget := range []int{-1, 0, 5, math.MinInt, math.MaxInt} {
				if answer, err := s.Solve(budget, all...); answer != sat.Unknown || err != api.ErrSat {
					t.Fatal("Solve", budget, all, answer, err)
				}
			}
		}
	}
	if !was.same(look(s)) {
		t.Fatal("changed", was, look(s))
	}
}

// P8.1

func TestNew(t *testing.T) {
	for _, o := range manyOptions() {
		s := sat.New(o)
		if !look(s).same(picture{}) {
			t.Error(o, look(s))
		}
		w := begin(t, o, 0)
		w.wants(sat.Yes)
		if w.s.Conflicts() != 0 || len(w.log) != 0 {
			t.Error(o, look(w.s))
		}
	}
}

func TestVar(t *testing.T) {
	w := begin(t, api.Options{Seed: 3}, 0)
	for range 8 {
		w.grow()
		w.wants(sat.Yes)
	}
	w.add(-8)
	w.wants(sat.No, 8)
	w.grow()
	w.wants(sat.Yes, 9, -8)
	w.add(9, 8)
	w.wants(sat.No, -9)
}

func TestVarsUpToTheLimit(t *testing.T) {
	s := sat.New(api.Options{Seed: 2})
	for v := 1; v <= api.MaxVars; v++ {
		if got := s.Var(); got != v {
			t.Fatal(got, v)
		}
	}
	for range 3 {
		if v := s.Var(); v != 0 || s.Vars() != api.MaxVars {
			t.Fatal(v, s.Vars())
		}
	}
	refused(t, s)
	if err := s.Add(-api.MaxVars, 1); err != api.OK {
		t.Error(err)
	}
	if answer, err := s.Solve(-1, api.MaxVars); answer != sat.Yes || err != api.OK {
		t.Error(answer, err)
	}
	model := s.Model()
	if len(model) != api.MaxVars || !model[0] || !model[api.MaxVars-1] {
		t.Error(len(model))
	}
	if answer, _ := s.Solve(-1, -1, 2, api.MaxVars); answer != sat.No || !sameLits(s.Core(), list(-1, api.MaxVars)) {
		t.Error(answer, s.Core())
	}
}

func TestAdd(t *testing.T) {
	for _, o := range manyOptions() {
		w := with(t, o, 3, list(1, 2), list(-1))
		w.wants(sat.Yes)
		w.wants(sat.No, 1)
		w.add(1, -1, 3, 3)
		w.add(2, -2)
		w.wants(sat.No, -2)
		w.add(3, 3, 3, -2)
		w.wants(sat.No, -3)
		w.wants(sat.Yes, 3)
		w.add(-3)
		w.wants(sat.No)
		w.add(1)
		w.wants(sat.No)
		w.grow()
		w.add(4)
		w.wants(sat.No, 4)
	}
}

func TestAddOfNoLiterals(t *testing.T) {
	w := with(t, api.Options{}, 2, list(1))
	w.add()
	w.wants(sat.No)
	w.wants(sat.No, 1, 2)
	w.add(2)
	w.wants(sat.No)
	w = with(t, api.Options{}, 0, nil)
	w.wants(sat.No)
}

func TestRefused(t *testing.T) {
	s := sat.New(api.Options{})
	for _, l := range append(noLits(0), 1, -1) {
		if s.Add(l) != api.ErrSat {
			t.Error("Add", l)
		}
		if answer, err := s.Solve(-1, l); answer != sat.Unknown || err != api.ErrSat {
			t.Error("Solve", l, answer, err)
		}
	}
	w := with(t, api.Options{}, 4, list(1, 2), list(-1, 2), list(-3, -2))
	refused(t, w.s)
	w.wants(sat.Yes)
	refused(t, w.s)
	w.wants(sat.No, 4, 3)
	refused(t, w.s)
	w.wants(sat.Yes, -3)
	w.wants(sat.No, -2)
	w.add(3)
	refused(t, w.s)
	w.wants(sat.No)
	refused(t, w.s)
}

// filled is one with clauses, and so many more of no weight that there is room for just so many.
func filled(t *testing.T, o api.Options, room, vars int, clauses [][]api.Lit) *sat.Solver {
	t.Helper()
	s := sat.New(o)
	for range vars + 1 {
		s.Var()
	}
	for _, c := range clauses {
		s.Add(c...)
	}
	for range api.MaxClauses - room - len(clauses) {
		if err := s.Add(api.Lit(vars + 1)); err != api.OK {
			t.Fatal(err)
		}
	}
	return s
}

// addAll adds until there is no room: how many it were.
func addAll(s *sat.Solver) int {
	n := 0
	for s.Add(1) == api.OK {
		n++
	}
	return n
}

// hand is how many were learnt and aren't forgotten.
func hand(s *sat.Solver) int {
	n := 0
	for _, step := range s.Log() {
		if step.Gone {
			n--
		} else {
			n++
		}
	}
	return n
}

func TestAddUpToTheLimit(t *testing.T) {
	s := filled(t, api.Options{}, 3, 2, [][]api.Lit{{1, -2}, {2}})
	if n := addAll(s); n != 3 {
		t.Error(n)
	}
	was := look(s)
	for _, c := range [][]api.Lit{{1}, {1, -1}, {-1}, nil, {0}} {
		if err := s.Add(c...); err != api.ErrSat {
			t.Error(c, err)
		}
	}
	if !was.same(look(s)) {
		t.Error("changed")
	}
	// Nothing need be learnt for either.
	if answer, err := s.Solve(-1); answer != sat.Yes || err != api.OK || !slices.Equal(s.Model(), []bool{true, true, true}) {
		t.Error(answer, err, s.Model())
	}
	if answer, err := s.Solve(-1, 3, -1); answer != sat.No || err != api.OK || !slices.Equal(s.Core(), list(-1)) {
		t.Error(answer, err, s.Core())
	}
	if err := s.Add(1); err != api.ErrSat {
		t.Error(err)
	}
}

func TestLearntClausesTakeRoom(t *testing.T) {
	vars, clauses := holes(5)
	for _, o := range []api.Options{{Reduce: 1000}, {Reduce: 1, Unit: 3}} {
		s := filled(t, o, 50000, vars, clauses)
		if answer, err := s.Solve(3); answer == sat.Yes || err != api.OK {
			t.Fatal(answer, err)
		}
		learnt := hand(s)
		if learnt == 0 {
			t.Fatal("nothing was learnt")
		}
		if n := addAll(s); n != 50000-learnt {
			t.Error(n, learnt)
		}
	}
}

func TestForgottenClausesLeaveTheirRoom(t *testing.T) {
	vars, clauses := holes(6)
	const room = 70
	s := filled(t, api.Options{Reduce: 1, Unit: 5}, room, vars, clauses)
	if answer, err := s.Solve(-1, 1, api.Lit(vars+1)); answer != sat.No || err != api.OK || len(s.Core()) > 1 {
		t.Fatal(answer, err, s.Core())
	}
	if answer, err := s.Solve(150, -1); answer == sat.Yes || err != api.OK {
		t.Fatal(answer, err)
	}
	// More than once over there would be no room, were it not for what is forgotten.
	if s.Conflicts() < 2*room || hand(s) > room {
		t.Fatal(s.Conflicts(), hand(s))
	}
	if answer, err := s.Solve(-1); answer != sat.No || err != api.OK || len(s.Core()) != 0 {
		t.Fatal(answer, err, s.Core())
	}
	if n, learnt := addAll(s), hand(s); n != room-learnt {
		t.Error(n, learnt)
	}
	w := &told{t: t, s: s, vars: vars + 1, clauses: append(clauses, list(api.Lit(vars+1)))}
	w.readLog()
}

// P8.2

func TestTheChaptersExample(t *testing.T) {
	for _, o := range manyOptions() {
		w := with(t, o, 2, list(1, 2), list(-1))
		w.wants(sat.Yes)
		if !slices.Equal(w.s.Model(), []bool{false, true}) {
			t.Error(w.s.Model())
		}
		w.wants(sat.No, -2)
		if !slices.Equal(w.s.Core(), list(-2)) {
			t.Error(w.s.Core())
		}
	}
}

func TestTheAnswersNumbers(t *testing.T) {
	if sat.Unknown != 0 || sat.Yes != 1 || sat.No != 2 || api.ErrSat != 81 {
		t.Error(sat.Unknown, sat.Yes, sat.No, api.ErrSat)
	}
}

func TestAllClausesOfTwoVariables(t *testing.T) {
	all := [][]api.Lit{{1}, {-1}, {2}, {-2}, {1, 2}, {1, -2}, {-1, 2}, {-1, -2}}
	assumed := [][]api.Lit{nil, {1}, {-2}, {1, 2}, {-2, -1}, {2, -1, 2}, {1, -1}, {2, 1, -2}}
	for n := range 1 << len(all) {
		w := begin(t, api.Options{Seed: uint64(n)}, 2)
		for i, c := range all {
			if n>>i&1 == 1 {
				w.add(c...)
				w.is(assumed[(i+n)%len(assumed)]...)
			}
		}
		for _, a := range assumed {
			w.is(a...)
		}
	}
}

func TestManyFormulas(t *testing.T) {
	answers := [3]int{}
	for seed := range 1500 {
		c := chance(seed)
		vars := 2 + seed%8
		w := begin(t, manyOptions()[seed%len(manyOptions())], vars)
		for range vars * (1 + seed%4) {
			w.add(anyLits(c, vars, 2+c.IntN(3))...)
		}
		for k := range 4 {
			answers[w.is(anyLits(c, vars, k)...)]++
		}
	}
	if answers[sat.Yes] < 1000 || answers[sat.No] < 1000 {
		t.Error(answers)
	}
}

// Three literals in each clause, and as many clauses as make it hard.
func TestHardFormulas(t *testing.T) {
	answers, conflicts := [3]int{}, 0
	for seed := range 150 {
		c := chance(seed)
		w := begin(t, manyOptions()[seed%len(manyOptions())], 10)
		for range 43 {
			w.add(anyLits(c, 10, 3)...)
		}
		for range 3 {
			answers[w.is()]++
			answers[w.is(anyLits(c, 10, 1)...)]++
			w.add(anyLits(c, 10, 3)...)
		}
		conflicts += w.s.Conflicts()
	}
	if answers[sat.Yes] < 100 || answers[sat.No] < 100 || conflicts < 500 {
		t.Error(answers, conflicts)
	}
}

// Of values of which all will do, those that are tried first are told.
func TestValuesThatAreTriedFirst(t *testing.T) {
	for seed := range uint64(20) {
		w := begin(t, api.Options{Seed: seed}, 40)
		w.solve(-1, 7, -8)
		for i, value := range w.s.Model() {
			if want := pace.First(seed, i+1); value != want && i != 6 && i != 7 {
				t.Error(seed, i+1, value)
			}
		}
	}
}

func TestAssumedByBothSigns(t *testing.T) {
	w := with(t, api.Options{}, 4, list(1, 2), list(-3))
	for _, assume := range [][]api.Lit{{1, -1}, {-1, 1}, {2, 2, -2}, {4, 1, -4, 2}, {-2, 4, 4, 1, 2, -4}} {
		w.wants(sat.No, assume...)
		if len(w.s.Core()) != 2 {
			t.Error(assume, w.s.Core())
		}
	}
	w.wants(sat.No, 1, 3, -3)
	w.wants(sat.No, 3)
	w.wants(sat.Yes, -3, -3, 1, 4, 1)
}

func TestNoLongerThanAssumed(t *testing.T) {
	// What was assumed, and what came of it, is forgotten behind the Solve.
	w := with(t, api.Options{}, 4, list(-1, 2), list(-2, 3), list(-3, 4))
	w.wants(sat.Yes, 1)
	w.wants(sat.No, 1, -4)
	w.wants(sat.Yes, -4)
	w.wants(sat.Yes, -1, 3)
	w.wants(sat.Yes, -1, -2, -3, -4)
	w.wants(sat.Yes)
}

func TestHoles(t *testing.T) {
	for pigeons := 1; pigeons <= 7; pigeons++ {
		vars, clauses := holes(pigeons)
		for _, o := range manyOptions() {
			w := with(t, o, vars, clauses...)
			if answer := w.solve(-1); answer != sat.No || len(w.s.Core()) != 0 {
				t.Error(pigeons, o, answer, w.s.Core())
			}
		}
		if pigeons == 1 {
			continue
		}
		// One pigeon more than holes, but one of them may stay away.
		away := api.Lit(vars + 1)
		for i, c := range clauses {
			if c[0] > 0 {
				clauses[i] = append(c, away)
				break
			}
		}
		w := with(t, api.Options{Unit: 10, Reduce: 20}, vars+1, clauses...)
		for range 2 {
			if answer := w.solve(-1); answer != sat.Yes {
				t.Error(pigeons, answer)
			}
			if answer := w.solve(-1, -away); answer != sat.No || !slices.Equal(w.s.Core(), list(-away)) {
				t.Error(pigeons, answer, w.s.Core())
			}
			if answer := w.solve(-1, away); answer != sat.Yes {
				t.Error(pigeons, answer)
			}
		}
	}
}

func TestBudget(t *testing.T) {
	vars, clauses := holes(6)
	for _, o := range manyOptions()[:6] {
		unknown := 0
		for _, budget := range []int{0, 1, 2, 3, 5, 8, 13, 21} {
			w := with(t, o, vars, clauses...)
			if w.solve(budget) == sat.Unknown {
				unknown++
			}
			// What was begun is ended later.
			if answer := w.solve(-1); answer != sat.No {
				t.Error(o, budget, answer)
			}
			for _, more := range []int{0, 1, 1000, -1} {
				if w.solve(more) == sat.Yes {
					t.Error(o, budget, more)
				}
			}
		}
		if unknown < 8 {
			t.Error(o, unknown)
		}
		w := with(t, o, vars, clauses...)
		if answer := w.solve(math.MaxInt); answer != sat.No {
			t.Error(o, answer)
		}
	}
}

func TestBudgetBelowZero(t *testing.T) {
	vars, clauses := holes(5)
	for _, budget := range []int{-1, -2, -1000, math.MinInt32, math.MinInt} {
		w := with(t, api.Options{}, vars, clauses...)
		if answer := w.solve(budget); answer != sat.No {
			t.Error(budget, answer)
		}
		w = with(t, api.Options{}, vars, clauses[1:]...)
		if answer := w.solve(budget, -1); answer == sat.Unknown {
			t.Error(budget, answer)
		}
	}
}

func TestBudgetIsOfOneSolve(t *testing.T) {
	// Those of earlier ones don't count: solve looks at that.
	vars, clauses := holes(6)
	w := with(t, api.Options{Unit: 50, Reduce: 500}, vars, clauses...)
	for k := range 200 {
		before := w.s.Conflicts()
		if w.solve(5, anyLits(chance(k), vars, k%3)...) != sat.Unknown {
			continue
		}
		if met := w.s.Conflicts() - before; met < 5 {
			t.Fatal(met)
		}
	}
	if w.s.Conflicts() < 50 {
		t.Error(w.s.Conflicts())
	}
}

func TestEasyOnesAreAnsweredWithinAnyBudget(t *testing.T) {
	// Without conflicts not more than none were met.
	w := with(t, api.Options{}, 3, list(1, 2), list(-2, 3))
	for _, budget := range []int{1, 2, 100, math.MaxInt} {
		if answer := w.solve(budget, -1); answer != sat.Yes {
			t.Error(budget, answer)
		}
		if answer := w.solve(budget, -1, -3); answer != sat.No {
			t.Error(budget, answer)
		}
	}
	w.solve(0, -1)
}

func TestWithoutRoom(t *testing.T) {
	vars, clauses := holes(6)
	for room := range 3 {
		s := filled(t, api.Options{Reduce: 1}, room, vars, clauses)
		for range 2 {
			if answer, err := s.Solve(-1); answer != sat.Unknown || err != api.OK {
				t.Error(room, answer, err)
			}
			if len(s.Model()) != 0 || len(s.Core()) != 0 || s.Conflicts() == 0 || hand(s) > room {
				t.Error(room, look(s))
			}
		}
		// Where each but the last one has a hole already, it is just as hopeless.
		if answer, err := s.Solve(-1, 1, 7, 13, 19, 25); answer == sat.Yes || err != api.OK {
			t.Error(room, answer, err)
		}
		if s.Vars() != vars+1 || s.Var() != vars+2 {
			t.Error(s.Vars())
		}
		if n, learnt := addAll(s), hand(s); n != max(0, room-learnt) {
			t.Error(room, n, learnt)
		}
	}
}

// P8.3

func TestModelAndCoreAreOfTheLastSolve(t *testing.T) {
	w := with(t, api.Options{}, 3, list(1, 2), list(-1, 3))
	w.wants(sat.Yes, 1)
	model := w.s.Model()
	if len(w.s.Core()) != 0 || !slices.Equal(model, w.s.Model()) {
		t.Error(model, w.s.Model(), w.s.Core())
	}
	// Neither a variable nor a clause more is a Solve.
	w.grow()
	w.add(-4)
	w.add(-1)
	if !slices.Equal(w.s.Model(), model) {
		t.Error(w.s.Model())
	}
	w.wants(sat.No, 3, 4)
	core := w.s.Core()
	w.add(1)
	w.grow()
	if !slices.Equal(core, list(4)) || !slices.Equal(w.s.Core(), core) || len(w.s.Model()) != 0 {
		t.Error(core, w.s.Core(), w.s.Model())
	}
	w.wants(sat.No)
	if len(w.s.Core()) != 0 || len(w.s.Model()) != 0 {
		t.Error(w.s.Core(), w.s.Model())
	}
}

func TestNoneBehindUnknown(t *testing.T) {
	vars, clauses := holes(6)
	w := with(t, api.Options{}, vars+1, clauses[1:]...)
	if w.solve(-1, api.Lit(vars+1)) == sat.No {
		t.Fatal("a pigeon that needs no hole")
	}
	w = with(t, api.Options{}, vars, clauses...)
	if w.solve(1) != sat.Unknown || len(w.s.Model()) != 0 || len(w.s.Core()) != 0 {
		t.Error(look(w.s))
	}
}

func TestCore(t *testing.T) {
	// 1 and 3 can't be, nor 5 and 6, once 7 is; 8 is never.
	clauses := [][]api.Lit{{-1, 2}, {-2, -3}, {-7, -5, -6}, {-8}}
	for _, c := range []struct{ assume, core []api.Lit }{
		{list(1, 3), list(1, 3)},
		{list(3, 1), list(1, 3)},
		{list(4, 1, 5, 3, 6), list(1, 3)},
		{list(4, 4, 3, 3, 1, 1), list(1, 3)},
		{list(2, 3, 9), list(2, 3)},
		{list(7, 1, 6, 2, 5), list(5, 6, 7)},
		{list(9, 8), list(8)},
		{list(8, 8, 8), list(8)},
		{list(9, 9, -9), list(9, -9)},
	} {
		for _, o := range manyOptions() {
			w := with(t, o, 9, clauses...)
			for range 3 {
				w.wants(sat.No, c.assume...)
				if core := w.s.Core(); !sameLits(core, c.core) || len(core) != len(c.core) {
					t.Error(o, c.assume, core)
				}
			}
		}
	}
}

func TestCoreOfManyThatAreAssumed(t *testing.T) {
	w := begin(t, api.Options{Seed: 5}, 60)
	var assume []api.Lit
	for v := api.Lit(1); v < 60; v++ {
		w.add(-v, v+1, -60)
		assume = append(assume, -(60 - v))
	}
	assume = append(assume, 60, 1)
	if answer := w.solve(-1, assume...); answer != sat.No || len(w.s.Core()) != 3 && len(w.s.Core()) != 2 {
		t.Error(answer, w.s.Core())
	}
	core := w.s.Core()
	if answer := w.solve(-1, core...); answer != sat.No {
		t.Error(answer, core)
	}
}

func TestCoreAloneIsNo(t *testing.T) {
	cores := 0
	for seed := range 400 {
		c := chance(seed)
		w := begin(t, manyOptions()[seed%len(manyOptions())], 9)
		for range 25 {
			w.add(anyLits(c, 9, 3)...)
		}
		if w.is(anyLits(c, 9, 7)...) != sat.No || len(w.s.Core()) == 0 {
			continue
		}
		cores++
		core := w.s.Core()
		w.wants(sat.No, core...)
		slices.Reverse(core)
		w.wants(sat.No, core...)
	}
	if cores < 100 {
		t.Error(cores)
	}
}

// P8.4

func TestConflicts(t *testing.T) {
	vars, clauses := holes(6)
	w := with(t, api.Options{Unit: 20, Reduce: 1000}, vars, clauses...)
	if w.s.Conflicts() != 0 {
		t.Error(w.s.Conflicts())
	}
	w.solve(4)
	if w.s.Conflicts() < 4 {
		t.Error(w.s.Conflicts())
	}
	w.solve(-1)
	// Nothing is learnt but of a conflict, or because of a Core.
	if n := w.s.Conflicts(); n < 10 || len(w.hand) > n+1 {
		t.Error(n, len(w.hand))
	}
	n := w.s.Conflicts()
	w.s.Log()
	w.s.Model()
	w.s.Core()
	w.s.Add(1)
	w.s.Var()
	w.s.Solve(-1, 0)
	if w.s.Conflicts() != n {
		t.Error(n, w.s.Conflicts())
	}
}

func TestLogForgets(t *testing.T) {
	vars, clauses := holes(6)
	for _, o := range []api.Options{{}, {Reduce: 1, Unit: 3}, {Reduce: 30, Unit: 10}} {
		w := with(t, o, vars, clauses...)
		w.solve(-1)
		gone := 0
		for _, step := range w.log {
			if step.Gone {
				gone++
			}
		}
		// All that is learnt, but a tenth of the conflicts, and what is told by Reduce, and is true by itself, or a reason.
		if most := w.s.Conflicts()/10 + max(o.Reduce, 1) + 2*vars; gone == 0 || len(w.hand) > most {
			t.Error(o, gone, len(w.hand), most)
		}
	}
	w := with(t, api.Options{Reduce: math.MaxInt}, vars, clauses...)
	w.solve(-1)
	if len(w.hand) != len(w.log) {
		t.Error("forgotten, but it wasn't time to", len(w.hand), len(w.log))
	}
}

func TestLogBehindEachNo(t *testing.T) {
	// lookAtCore holds the last Step against each Core.
	w := with(t, api.Options{}, 6, list(-1, 2), list(-2, 3), list(-4, 5))
	w.wants(sat.No, 1, -3)
	w.wants(sat.No, 4, -5)
	w.wants(sat.No, 1, -3)
	w.wants(sat.Yes, 1)
	w.wants(sat.No, 1, -3)
	w.wants(sat.No, 6, -6)
	w.wants(sat.No, -3, 1)
	w.wants(sat.No, 1, -2)
	w.add(1, 6)
	w.add(1, -6)
	w.wants(sat.No, -1)
	w.wants(sat.No, -3)
	w.wants(sat.No, -2)
	w.add(-3)
	w.wants(sat.No, 5)
	w.wants(sat.No)
	w.wants(sat.No, -5)
}

func TestLogOfWhatIsAskedAgain(t *testing.T) {
	// Nothing is learnt, and nothing is kept.
	w := with(t, api.Options{}, 4, list(-1, 2), list(-2, 3))
	for _, assume := range [][]api.Lit{{1, -3}, {-4, 4}, {-3, 4, 1}} {
		w.wants(sat.No, assume...)
		steps := len(w.log)
		for range 3 {
			w.wants(sat.No, assume...)
		}
		if len(w.log) != steps || len(w.hand) != 1 {
			t.Error(assume, len(w.log), steps, w.hand)
		}
	}
	w.add()
	for range 3 {
		w.wants(sat.No, 1, -3)
		if len(w.hand) != 1 || len(w.hand[0]) != 0 {
			t.Error(w.hand)
		}
	}
}

func TestLogOfManySolves(t *testing.T) {
	learnt, gone := 0, 0
	for seed := range 60 {
		c := chance(seed)
		o := manyOptions()[seed%len(manyOptions())]
		w := begin(t, o, 30)
		for range 110 {
			w.add(anyLits(c, 30, 3)...)
		}
		for k := range 12 {
			w.solve([]int{-1, 3, 0, 50}[k%4], anyLits(c, 30, k%5)...)
			w.add(anyLits(c, w.vars, 3)...)
			if k%3 == 0 {
				w.grow()
			}
		}
		for _, step := range w.log {
			if step.Gone {
				gone++
			} else {
				learnt++
			}
		}
	}
	if learnt < 500 || gone < 100 {
		t.Error(learnt, gone)
	}
}

// P8.5

func TestOptionsChangeNoAnswer(t *testing.T) {
	for seed := range 25 {
		var answers [][]int
		for _, o := range manyOptions() {
			c := chance(seed)
			w := begin(t, o, 40)
			var some []int
			for range 150 {
				w.add(anyLits(c, 40, 3)...)
			}
			for k := range 6 {
				some = append(some, w.solve(-1, anyLits(c, 40, k)...))
				w.add(anyLits(c, 40, 3)...)
			}
			answers = append(answers, some)
		}
		for i, some := range answers {
			if !slices.Equal(some, answers[0]) || slices.Contains(some, sat.Unknown) {
				t.Error(seed, manyOptions()[i], some, answers[0])
			}
		}
	}
}

func TestEarlierSolvesChangeNoAnswer(t *testing.T) {
	for seed := range 60 {
		c := chance(seed)
		o := manyOptions()[seed%len(manyOptions())]
		var clauses, asked [][]api.Lit
		for range 160 {
			clauses = append(clauses, anyLits(c, 40, 3))
		}
		for k := range 8 {
			asked = append(asked, anyLits(c, 40, k))
		}
		w := with(t, o, 40, clauses...)
		var forth, back, fresh []int
		for _, a := range asked {
			forth = append(forth, w.solve(-1, a...))
			fresh = append(fresh, with(t, o, 40, clauses...).solve(-1, a...))
		}
		for _, a := range slices.Backward(asked) {
			w.solve(2)
			back = append(back, w.solve(-1, a...))
		}
		slices.Reverse(back)
		if !slices.Equal(forth, fresh) || !slices.Equal(back, fresh) {
			t.Error(seed, forth, back, fresh)
		}
	}
}

// Rules that hold everywhere.

func TestTheSameCallsAnswerTheSame(t *testing.T) {
	for _, o := range manyOptions() {
		var pictures [2][]picture
		for i := range pictures {
			c := chance(11)
			s := sat.New(o)
			for range 50 {
				s.Var()
			}
			for range 210 {
				s.Add(anyLits(c, 50, 3)...)
			}
			for k := range 6 {
				s.Solve([]int{-1, 20}[k%2], anyLits(c, 50, k)...)
				pictures[i] = append(pictures[i], look(s))
			}
		}
		for k, p := range pictures[0] {
			if !p.same(pictures[1][k]) {
				t.Error(o, k)
			}
		}
	}
}

func TestSolversShareNothing(t *testing.T) {
	one, other := with(t, api.Options{}, 3, list(1, 2)), with(t, api.Options{}, 3, list(-1, 3))
	one.wants(sat.No, -1, -2)
	other.add(-3)
	other.wants(sat.No, 1)
	one.wants(sat.Yes, 1, -3)
	one.add()
	one.wants(sat.No)
	other.wants(sat.Yes, -1)
}

func TestWhatIsHandedInIsNotKept(t *testing.T) {
	room := make([]api.Lit, 6)
	clause := append(room[:0], 3, 1, 3)
	w := begin(t, api.Options{}, 4)
	w.add(clause...)
	if !slices.Equal(room, list(3, 1, 3, 0, 0, 0)) {
		t.Error(room)
	}
	clear(room)
	w.wants(sat.No, -1, -3)
	assume := append(room[:0], -3, 4, 4, -1)
	w.wants(sat.No, assume...)
	if !slices.Equal(room, list(-3, 4, 4, -1, 0, 0)) {
		t.Error(room)
	}
	core, log := w.s.Core(), w.s.Log()
	clear(room)
	if !slices.Equal(w.s.Core(), core) || !slices.EqualFunc(w.s.Log(), log, sameStep) {
		t.Error(w.s.Core(), core)
	}
}

// spoil writes over a list and what room it has.
func spoil[T any](l []T, with T) {
	l = l[:cap(l)]
	for i := range l {
		l[i] = with
	}
}

func TestAnswersAreNewMemory(t *testing.T) {
	vars, clauses := holes(5)
	w := with(t, api.Options{}, vars, clauses...)
	w.solve(-1, 1, 2)
	was := look(w.s)
	for _, step := range w.s.Log() {
		spoil(step.Clause, 1)
	}
	if !was.same(look(w.s)) {
		t.Fatal("a Step's Clause is shared")
	}
	log := w.s.Log()
	for i := range log {
		spoil(log[i].Clause, 9)
		copy(log[i].Clause, was.log[i].Clause)
		if !slices.EqualFunc(log, was.log, sameStep) {
			t.Fatal("Steps share", i)
		}
	}
	spoil(log, api.Step{})
	spoil(w.s.Core(), 1)
	if !was.same(look(w.s)) {
		t.Fatal("shared")
	}
	w = with(t, api.Options{}, 5, list(1, 2), list(-2, -3))
	w.wants(sat.Yes)
	was = look(w.s)
	spoil(w.s.Model(), !was.model[0])
	if !was.same(look(w.s)) {
		t.Error("shared")
	}
	w.wants(sat.No, 3, 2)
	was = look(w.s)
	spoil(w.s.Core(), 5)
	if !was.same(look(w.s)) {
		t.Error("shared")
	}
	w.wants(sat.No, 3, 2)
}

func TestManyOrdersOfCalls(t *testing.T) {
	for seed := range 300 {
		c := chance(seed)
		w := begin(t, manyOptions()[seed%len(manyOptions())], seed%4)
		for range 80 {
			switch n := c.IntN(12); {
			case n == 0 && w.vars < 9:
				w.grow()
			case n == 1:
				refused(t, w.s)
			case w.vars == 0:
				w.is()
			case n < 7:
				w.add(anyLits(c, w.vars, 1+c.IntN(3)+c.IntN(2))...)
			case n < 9:
				w.solve(c.IntN(4), anyLits(c, w.vars, c.IntN(4))...)
			default:
				w.is(anyLits(c, w.vars, c.IntN(5))...)
			}
		}
	}
}
