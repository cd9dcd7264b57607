package knit

import (
	"math"
	"slices"

	"lariat/api"
)

// know: all on which some edges hang gets VARIABLES, and what is told of them. No clause is added before there are VARIABLES enough, as one can't be taken back.
func (k *Knit) know(l ...api.Edge) api.Errno {
	for _, e := range l {
		if number(e) >= k.graph.Len() {
			return api.ErrKnit
		}
	}
	gates := k.unknown(l)
	if !k.fetch(len(gates)) {
		return api.ErrKnit
	}
	k.name(gates)
	for _, n := range gates {
		if err := k.tell(n); err != api.OK {
			return err
		}
	}
	return api.OK
}

// unknown: the gates on which edges hang that have no VARIABLE, rising. It goes no deeper than a gate that has one, so that many small calls on a great graph don't go through all of it each time; and by a list, not by calls of itself, as a graph may be as deep as it has gates.
func (k *Knit) unknown(l []api.Edge) []int {
	met := map[int]struct{}{}
	var gates []int
	meet := func(e api.Edge) {
		n := number(e)
		if _, ok := met[n]; !ok && k.Var(n) == 0 {
			met[n] = struct{}{}
			gates = append(gates, n)
		}
	}
	for _, e := range l {
		meet(e)
	}
	for i := 0; i < len(gates); i++ {
		if a, b, ok := k.graph.Parts(gates[i]); ok {
			meet(a)
			meet(b)
		}
	}
	slices.Sort(gates)
	return gates
}

// fetch: the Sink's variables, until there are so many to spare. If there aren't, those that were fetched wait for a later call: the Sink doesn't take them back, and a smaller call may still have room.
func (k *Knit) fetch(many int) bool {
	for len(k.spare) < many {
		v := k.sink.Var()
		if v < 1 || v > math.MaxInt32 {
			return false
		}
		k.spare = append(k.spare, api.Lit(v))
	}
	return true
}

// name: these gates get the first VARIABLES to spare.
func (k *Knit) name(gates []int) {
	k.vars = append(k.vars, make([]api.Lit, k.graph.Len()-len(k.vars))...)
	for i, n := range gates {
		k.vars[n] = k.spare[i]
	}
	k.spare = k.spare[len(gates):]
	k.known += len(gates)
}

// tell: what is true of a gate's VARIABLE; of an INPUT's nothing is.
func (k *Knit) tell(n int) api.Errno {
	v := k.vars[n]
	if n == 0 {
		return k.add(-v)
	}
	a, b, ok := k.graph.Parts(n)
	if !ok {
		return api.OK
	}
	x, y := k.literal(a), k.literal(b)
	for _, clause := range [][]api.Lit{{-v, x}, {-v, y}, {v, -x, -y}} {
		if err := k.add(clause...); err != api.OK {
			return err
		}
	}
	return api.OK
}

// add: whichever error the Sink has, there is but one here.
func (k *Knit) add(clause ...api.Lit) api.Errno {
	if k.sink.Add(clause...) != api.OK {
		return api.ErrKnit
	}
	return api.OK
}
