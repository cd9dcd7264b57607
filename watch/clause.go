package watch

import (
	"slices"

	"lariat/api"
	"lariat/lit"
)

// What becomes of a clause that is told that a literal it watches is false.
const (
	stays = iota
	leaves
	clashes
)

// clause is one that was added; one that was removed has nothing.
type clause struct {
	present bool
	lits    []api.Lit  // as they are Clean
	watched [2]api.Lit // it is told when one of these two is false
	next    int        // where in lits the search for another one to be watched goes on, so that a long clause isn't begun anew each time
}

// newClause keeps a copy, as a Clean list may have room for all that was handed in.
func newClause(clean []api.Lit) clause {
	return clause{present: true, lits: slices.Clone(clean)}
}

// makeRoom: each literal has a list of those that watch it, also that of a variable which came late.
func (e *Engine) makeRoom() {
	missing := 2*(e.Vars()+1) - len(e.watching)
	if missing > 0 {
		e.watching = append(e.watching, make([][]int, missing)...)
	}
}

func (e *Engine) watch(id int, l api.Lit) {
	place := lit.Place(l)
	e.watching[place] = append(e.watching[place], id)
}

// settle looks at the loose clauses: the number of a conflict, which stays loose with those behind it, or none.
func (e *Engine) settle() int {
	for i, id := range e.loose {
		if !e.fasten(id) {
			e.loose = slices.Delete(e.loose, 0, i)
			return id
		}
	}
	e.loose = e.loose[:0]
	return none
}

// fasten: a loose clause isn't loose any more, and if one literal of it is left, that is true; false, if it is a conflict.
func (e *Engine) fasten(id int) bool {
	c := &e.clauses[id]
	if !c.present {
		return true
	}
	first, second := e.notFalse(c.lits)
	if second != 0 {
		c.watched = [2]api.Lit{first, second}
		e.watch(id, first)
		e.watch(id, second)
		return true
	}
	// Set refuses the 0 of a clause that has none left.
	if e.Value(first) != 1 && e.Set(first, id) != api.OK {
		return false
	}
	// To be watched wouldn't do: once this literal is undone, the others may be false still, and then none of them becomes so.
	if level := e.Level(lit.Var(first)); level > 0 {
		due := &e.levels[level-1]
		due.loose = append(due.loose, id)
	}
	return true
}

// notFalse: the first two literals that aren't false; 0, where there is none.
func (e *Engine) notFalse(lits []api.Lit) (first, second api.Lit) {
	for _, l := range lits {
		switch {
		case e.Value(l) == -1:
		case first == 0:
			first = l
		default:
			return first, l
		}
	}
	return first, 0
}

// visit tells those that watch the other sign of a literal that is true: the number of a conflict, or none.
func (e *Engine) visit(l api.Lit) int {
	wrong := lit.Not(l)
	place := lit.Place(wrong)
	told := e.watching[place]
	rest := told[:0]
	for i, id := range told {
		switch e.tell(id, wrong) {
		case stays:
			rest = append(rest, id)
		case clashes:
			e.watching[place] = append(rest, told[i:]...)
			return id
		}
	}
	e.watching[place] = rest
	return none
}

// tell: a literal that a clause watches is false; if one other is left, that is true.
func (e *Engine) tell(id int, wrong api.Lit) int {
	c := &e.clauses[id]
	if !c.present {
		return leaves
	}
	other := c.watched[0]
	if other == wrong {
		other = c.watched[1]
	}
	if e.Value(other) == 1 {
		return stays
	}
	if l := e.another(c); l != 0 {
		c.watched = [2]api.Lit{other, l}
		e.watch(id, l)
		return leaves
	}
	if e.Set(other, id) != api.OK {
		return clashes
	}
	return stays
}

// another: a literal that isn't watched and isn't false; 0, if there is none.
func (e *Engine) another(c *clause) api.Lit {
	for range c.lits {
		c.next++
		if c.next == len(c.lits) {
			c.next = 0
		}
		l := c.lits[c.next]
		if l != c.watched[0] && l != c.watched[1] && e.Value(l) != -1 {
			return l
		}
	}
	return 0
}
