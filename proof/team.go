package proof

import (
	"lariat/api"
	"lariat/lit"
	"lariat/watch"
)

// team tells what follows of clauses. It has several engines, as there may be more clauses than one of them takes; each tells the others what is true.
type team struct {
	vars    int
	room    int // how many clauses an engine takes, those that were removed too
	members []*member
	places  []place // by the clauses' numbers
	gone    int     // how many clauses that were removed the engines still count
	settled bool    // all that follows of the clauses alone is true, and there is no conflict
	stuck   bool    // of the clauses alone there is a conflict
	tracing bool
	steps   int   // the clauses from this number on are traced
	causes  []int // of which ones of these, from 0 on, the last conflict came; where it is stuck, that of the clauses alone
}

// member is an engine, and what the team knows of it.
type member struct {
	*watch.Engine
	numbers []int // by the engine's own ones
	told    int   // so many literals that are true here, the first ones, the others know
	base    struct {
		depth, told int // as they are where what follows of the clauses alone is true
	}
}

// place is where a clause is: in which member, and by which number of the engine's own.
type place struct {
	member *member
	id     int
}

func newTeam(vars, given, steps, room int) *team {
	t := &team{
		vars:   vars,
		room:   room,
		places: make([]place, given+steps),
		steps:  given,
	}
	t.enlist()
	return t
}

func (t *team) enlist() {
	// The variable more is what the base is decided with: at the level 0 nothing could be taken back, once its reason is removed.
	t.members = append(t.members, &member{Engine: watch.New(t.vars + 1)})
}

// add: one clause more.
func (t *team) add(number int, clause []api.Lit) {
	if len(t.newest().numbers) == t.room {
		t.makeRoom()
	}
	m := t.newest()
	id, _ := m.Add(clause...)
	m.numbers = append(m.numbers, number)
	t.places[number] = place{m, id}
	t.settled = false
}

func (t *team) newest() *member {
	return t.members[len(t.members)-1]
}

// makeRoom begins with new engines, if that gives back at least half of one; else there is one more.
func (t *team) makeRoom() {
	// A new one doesn't know what is true.
	t.loosen()
	old := t.members
	if 2*t.gone < t.room {
		t.enlist()
		return
	}
	t.members, t.gone = nil, 0
	t.enlist()
	for _, m := range old {
		for id, number := range m.numbers {
			if clause, ok := m.Clause(id); ok {
				t.add(number, clause)
			}
		}
	}
}

// remove: one clause fewer.
func (t *team) remove(number int) {
	p := t.places[number]
	if p.member.Remove(p.id) != api.OK {
		// It is a reason at the base.
		t.loosen()
		p.member.Remove(p.id)
	}
	t.gone++
	t.stuck = false
}

// follows: is there a conflict, once all literals of a clause are false?
func (t *team) follows(clause []api.Lit) bool {
	if !t.settle() {
		return true
	}
	clash := t.deny(clause) || t.propagate()
	for _, m := range t.members {
		m.Back(m.base.depth)
		m.told = m.base.told
	}
	return clash
}

// settle: what follows of the clauses alone is true; false, if there is a conflict.
func (t *team) settle() bool {
	if t.settled || t.stuck {
		return !t.stuck
	}
	for _, m := range t.members {
		// Refused, if that is so since an earlier time.
		m.Decide(api.Lit(t.vars + 1))
	}
	if t.propagate() {
		t.stuck = true
		t.loosen()
		return false
	}
	for _, m := range t.members {
		m.base.depth, m.base.told = m.Depth(), m.told
	}
	t.settled = true
	return true
}

// loosen: nothing is true any more.
func (t *team) loosen() {
	for _, m := range t.members {
		m.Back(0)
		m.told = 0
	}
	t.settled = false
}

// deny: all literals of a clause are false; true, if one of them can't be.
func (t *team) deny(clause []api.Lit) bool {
	for _, l := range clause {
		// At the base all know the same.
		if t.newest().Value(l) == 1 {
			t.trace(nil, []api.Lit{l})
			return true
		}
		t.decide(lit.Not(l))
	}
	return false
}

// decide: false, if all know it.
func (t *team) decide(l api.Lit) bool {
	news := false
	for _, m := range t.members {
		if m.Decide(l) == api.OK {
			news = true
		}
	}
	return news
}

// propagate: what follows is true; is there a conflict?
func (t *team) propagate() bool {
	for more := true; more; {
		more = false
		for _, m := range t.members {
			if id := m.Propagate(); id != none {
				clause, _ := m.Clause(id)
				t.trace([]int{m.numbers[id]}, clause)
				return true
			}
			if t.tell(m) {
				more = true
			}
		}
	}
	return false
}

// tell: all know what a member has found; false, if there is nothing new.
func (t *team) tell(m *member) bool {
	if len(t.members) == 1 {
		return false
	}
	news := false
	all := m.True()
	for _, l := range all[m.told:] {
		if t.decide(l) {
			news = true
		}
	}
	m.told = len(all)
	return news
}

// trace finds of which clauses it comes that variables have values; some clauses are known to be among them.
func (t *team) trace(numbers []int, lits []api.Lit) {
	if !t.tracing {
		return
	}
	met := map[int]struct{}{}
	for len(lits) > 0 {
		last := len(lits) - 1
		v := lit.Var(lits[last])
		lits = lits[:last]
		if _, ok := met[v]; ok {
			continue
		}
		met[v] = struct{}{}
		if number, clause := t.reason(v); number != none {
			numbers = append(numbers, number)
			lits = append(lits, clause...)
		}
	}
	t.causes = nil
	for _, number := range numbers {
		if number >= t.steps {
			t.causes = append(t.causes, number-t.steps)
		}
	}
}

// reason: because of which clause a variable has its value; none, if that was decided.
func (t *team) reason(v int) (int, []api.Lit) {
	for _, m := range t.members {
		if id := m.Reason(v); id != none {
			clause, _ := m.Clause(id)
			return m.numbers[id], clause
		}
	}
	return none, nil
}
