package proof

import (
	"slices"

	"lariat/api"
	"lariat/lit"
)

// hand is the clauses at hand. Each has a number: first come the formula's, then those of the log, by their Steps.
type hand struct {
	lists  map[string][]int // by their literals; the team has the first one of a list for all of them, as they say the same
	team   *team
	given  int     // how many are the formula's
	causes [][]int // by Steps: of which ones each came, where that is traced
	last   int     // the last Step that isn't Gone, or none
}

// newHand: a formula's clauses, with so many Steps to come, and so much room in each engine.
func newHand(f api.Formula, steps, room int) *hand {
	h := &hand{
		lists:  make(map[string][]int, len(f.Clauses)),
		team:   newTeam(f.Vars, len(f.Clauses), steps, room),
		given:  len(f.Clauses),
		causes: make([][]int, steps),
		last:   none,
	}
	for number, clause := range f.Clauses {
		h.add(number, clause)
	}
	return h
}

// walk goes through a log: the first Step that isn't so, or none.
func (h *hand) walk(log []api.Step) int {
	for i, step := range log {
		if !h.take(i, step) {
			return i
		}
	}
	return none
}

// take: false, if the Step isn't so.
func (h *hand) take(i int, step api.Step) bool {
	if step.Gone {
		return h.remove(step.Clause)
	}
	if !h.team.follows(step.Clause) {
		return false
	}
	h.causes[i] = h.team.causes
	h.last = i
	h.add(h.given+i, step.Clause)
	return true
}

func (h *hand) add(number int, clause []api.Lit) {
	k := key(clause)
	same := h.lists[k]
	if len(same) == 0 {
		h.team.add(number, clause)
	}
	h.lists[k] = append(same, number)
}

// remove: one with these literals isn't at hand any more; false, if there is none.
func (h *hand) remove(clause []api.Lit) bool {
	k := key(clause)
	same := h.lists[k]
	switch len(same) {
	case 0:
		return false
	case 1:
		h.team.remove(same[0])
		delete(h.lists, k)
	default:
		// The last one, as the team has the first.
		h.lists[k] = same[:len(same)-1]
	}
	return true
}

// needed: the Steps of which the last one came, and of which those came, and so on.
func (h *hand) needed() []int {
	if h.last == none {
		return nil
	}
	wanted := make([]bool, h.last+1)
	wanted[h.last] = true
	var steps []int
	// From behind, as a Step comes of earlier ones alone.
	for i := h.last; i >= 0; i-- {
		if !wanted[i] {
			continue
		}
		steps = append(steps, i)
		for _, cause := range h.causes[i] {
			wanted[cause] = true
		}
	}
	slices.Reverse(steps)
	return steps
}

// key is the same of two clauses with the same literals, and of no others: four bytes of each literal.
func key(clause []api.Lit) string {
	clean, _, _ := lit.Clean(clause...)
	text := make([]byte, 0, 4*len(clean))
	for _, l := range clean {
		text = append(text, byte(l), byte(l>>8), byte(l>>16), byte(l>>24))
	}
	return string(text)
}
