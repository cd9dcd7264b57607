package sat

import (
	"cmp"
	"slices"

	"lariat/api"
	"lariat/lit"
)

// lesson is a clause that was learnt, and may be forgotten.
type lesson struct {
	id     int // the engine's number
	step   int // where in the log it was learnt
	levels int // how many levels it had: the fewer, the sooner it is of use again
	size   int
}

// keep: a clause was learnt; older ones may be forgotten for it.
func (s *Solver) keep(clause []api.Lit, levels int) {
	l := lesson{id: s.put(clause), step: len(s.log), levels: levels, size: len(clause)}
	s.log = append(s.log, api.Step{Clause: clause})
	// Behind the Step, as it may follow of what is forgotten, and ahead of the lesson, which is needed now.
	s.forget()
	// A literal by itself is true for ever, and so is never forgotten.
	if l.size > 1 {
		s.lessons = append(s.lessons, l)
	}
}

// forget: so many lessons as it is time to, the least useful ones, but none that is a reason.
func (s *Solver) forget() {
	many := s.pace.Forget(len(s.lessons))
	if many == 0 {
		return
	}
	slices.SortFunc(s.lessons, func(a, b lesson) int {
		return cmp.Or(cmp.Compare(b.levels, a.levels), cmp.Compare(b.size, a.size), cmp.Compare(a.step, b.step))
	})
	s.lessons = slices.DeleteFunc(s.lessons, func(l lesson) bool {
		if many == 0 || s.engine.Remove(l.id) != api.OK {
			return false
		}
		many--
		s.many--
		s.gone(l.step)
		return true
	})
}

// gone: the clause that was learnt at a Step is forgotten.
func (s *Solver) gone(step int) {
	s.log = append(s.log, api.Step{Gone: true, Clause: s.log[step].Clause})
}

// conclude: it is No, because of these.
func (s *Solver) conclude(core []api.Lit) {
	s.core = core
	clause := make([]api.Lit, len(core))
	for i, l := range core {
		clause[i] = lit.Not(l)
	}
	if s.concluded && slices.Equal(clause, s.log[len(s.log)-1].Clause) {
		return
	}
	s.retract()
	s.concluded = true
	s.many++
	s.log = append(s.log, api.Step{Clause: clause})
}

// retract: what the last Core says is forgotten; the engine has the clauses of which it came.
func (s *Solver) retract() {
	if !s.concluded {
		return
	}
	s.concluded = false
	s.many--
	s.gone(len(s.log) - 1)
}
