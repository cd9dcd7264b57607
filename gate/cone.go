package gate

import (
	"slices"

	"lariat/api"
)

// Parts: what a gate is made of.
func (g *Graph) Parts(gate int) (api.Edge, api.Edge, bool) {
	if gate < 0 || gate >= g.Len() {
		return api.False, api.False, false
	}
	p := g.gates[gate]
	return p[0], p[1], p != pair{}
}

// Eval: what edges say.
func (g *Graph) Eval(values []bool, l ...api.Edge) ([]bool, api.Errno) {
	if !g.has(l...) {
		return nil, api.ErrGate
	}
	truth := g.truth(values, g.cone(l))
	said := make([]bool, len(l))
	for i, e := range l {
		said[i] = truth.says(e)
	}
	return said, api.OK
}

// Cone: on which gates edges hang.
func (g *Graph) Cone(l ...api.Edge) ([]int, api.Errno) {
	if !g.has(l...) {
		return nil, api.ErrGate
	}
	return g.cone(l), api.OK
}

// cone goes by a list, not by calls of itself, as a graph may be as deep as it has gates.
func (g *Graph) cone(l []api.Edge) []int {
	met := g.noMarks()
	met.add(0)
	var gates []int
	meet := func(e api.Edge) {
		if n := number(e); !met.has(n) {
			met.add(n)
			gates = append(gates, n)
		}
	}
	for _, e := range l {
		meet(e)
	}
	for i := 0; i < len(gates); i++ {
		if a, b, ok := g.Parts(gates[i]); ok {
			meet(a)
			meet(b)
		}
	}
	slices.Sort(gates)
	return gates
}

// truth: which gates of a cone are true. As the cone rises, what a gate is made of is known by then.
func (g *Graph) truth(values []bool, cone []int) marks {
	truth := g.noMarks()
	for _, n := range cone {
		a, b, ok := g.Parts(n)
		if ok && truth.says(a) && truth.says(b) || !ok && g.value(values, n) {
			truth.add(n)
		}
	}
	return truth
}

// value: of the gate of an INPUT.
func (g *Graph) value(values []bool, gate int) bool {
	place, ok := slices.BinarySearch(g.inputs, api.Edge(2*gate))
	return ok && place < len(values) && values[place]
}
