package vec

import (
	"lariat/api"
	"lariat/gate"
)

// Less: is one below the other?
func Less(g *gate.Graph, a, b Vec) (api.Edge, api.Errno) {
	width := max(len(a), len(b))
	m, err := begin(g, width, a, b)
	if err != api.OK {
		return api.False, err
	}
	a, b = a.widen(width), b.widen(width)
	// The last bits alone count below 0: with both changed, all count above, and what was below the other still is.
	a[width-1], b[width-1] = b[width-1], a[width-1]
	less := api.False
	for i := range width {
		// Where both bits are the same, the lower ones tell.
		less = m.most(m.not(a[i]), b[i], less)
	}
	return m.edge(less)
}

// Equal: are both the same?
func Equal(g *gate.Graph, a, b Vec) (api.Edge, api.Errno) {
	width := max(len(a), len(b))
	m, err := begin(g, width, a, b)
	if err != api.OK {
		return api.False, err
	}
	alike := make([]api.Edge, width)
	for i := range alike {
		alike[i] = m.same(a.at(i), b.at(i))
	}
	return m.edge(m.and(alike...))
}

// Choose: one, if c is, or the other.
func Choose(g *gate.Graph, c api.Edge, a, b Vec) (Vec, api.Errno) {
	width := max(len(a), len(b))
	m, err := begin(g, width, a, b, Vec{c})
	if err != api.OK {
		return nil, err
	}
	chosen := make(Vec, width)
	for i := range chosen {
		chosen[i] = m.choose(c, a.at(i), b.at(i))
	}
	return m.vec(chosen)
}
