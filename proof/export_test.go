package proof

import "lariat/api"

// InSmallEngines: Check, Proves and Needed, with engines that take only so many clauses, as if there were far more of them.
func InSmallEngines(room int, f api.Formula, goal []api.Lit, log ...api.Step) (int, bool, []int) {
	h := newHand(f, len(log), room)
	h.team.tracing = true
	at := h.walk(log)
	if at != none {
		return at, false, nil
	}
	needed := h.needed()
	return at, h.team.follows(goal), needed
}
