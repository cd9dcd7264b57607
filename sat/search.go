package sat

import (
	"slices"

	"lariat/api"
	"lariat/learn"
	"lariat/lit"
)

// open is answered as long as a search goes on.
const open = -1

// search is one Solve.
type search struct {
	*Solver
	assume []api.Lit
	asked  int // so many of assume, from the first one on, are true
	budget int
	before int // how many conflicts were met ahead of it
}

func (s *search) run() int {
	answer := open
	for answer == open {
		if conflict := s.engine.Propagate(); conflict >= 0 {
			answer = s.mend(conflict)
		} else {
			answer = s.decide()
		}
	}
	return answer
}

// decide: one literal more is true; first those that are assumed.
func (s *search) decide() int {
	for ; s.asked < len(s.assume); s.asked++ {
		l := s.assume[s.asked]
		switch s.engine.Value(l) {
		case -1:
			s.conclude(s.blame(l))
			return No
		case 0:
			s.engine.Decide(l)
			return open
		}
	}
	for {
		v, ok := s.rank.Pop()
		if !ok {
			s.model = s.found()
			return Yes
		}
		l := api.Lit(v)
		if !s.values[v-1] {
			l = lit.Not(l)
		}
		// Refused, if it has a value already.
		if s.engine.Decide(l) == api.OK {
			return open
		}
	}
}

// mend learns of a conflict, and goes back to where what was learnt says something new.
func (s *search) mend(conflict int) int {
	anew := s.pace.Conflict()
	clause, level, err := learn.Learn(s.engine, conflict)
	if err != api.OK {
		// All its literals are false at the level 0, whatever is assumed.
		s.conclude(nil)
		return No
	}
	s.retract()
	if s.full() {
		return Unknown
	}
	s.reward(clause)
	levels := learn.Levels(s.engine, clause)
	if anew {
		level = 0
	}
	s.back(level)
	s.asked = 0
	s.keep(clause, levels)
	if s.budget >= 0 && s.Conflicts()-s.before >= s.budget {
		return Unknown
	}
	return open
}

// reward: the variables of what was learnt, and those that made it so, are asked sooner; the later, the more that counts.
func (s *search) reward(clause []api.Lit) {
	for _, l := range clause {
		s.rank.Bump(lit.Var(l), s.by)
		for _, why := range s.reason(l) {
			s.rank.Bump(lit.Var(why), s.by)
		}
	}
	s.by += s.by/32 + 1
	// So far below MaxScore that sums of it don't come there, where scores would all be equal.
	if s.by > api.MaxScore>>20 {
		s.by /= 2
		s.rank.Halve()
	}
}

// blame: the literals that are assumed because of which one of them is false, and that one.
func (s *search) blame(wrong api.Lit) []api.Lit {
	core := []api.Lit{wrong}
	needed := make([]bool, s.Vars()+1)
	needed[lit.Var(wrong)] = true
	// From behind, as what is the reason of a literal has been true ahead of it.
	for _, l := range slices.Backward(s.engine.True()) {
		v := lit.Var(l)
		if !needed[v] {
			continue
		}
		reason := s.reason(l)
		if len(reason) == 0 {
			core = append(core, l)
		}
		for _, why := range reason {
			needed[lit.Var(why)] = true
		}
	}
	return core
}

// reason: the clause because of which a variable has its value; none, if that was decided.
func (s *search) reason(l api.Lit) []api.Lit {
	clause, _ := s.engine.Clause(s.engine.Reason(lit.Var(l)))
	return clause
}

// found: the values of all variables.
func (s *search) found() []bool {
	values := make([]bool, s.Vars())
	for i := range values {
		values[i] = s.engine.Value(api.Lit(i+1)) == 1
	}
	return values
}
