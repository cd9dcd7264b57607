package vec

import (
	"lariat/api"
	"lariat/gate"
)

// Add: both together.
func Add(g *gate.Graph, a, b Vec) (Vec, api.Errno) {
	m, err := begin(g, max(len(a), len(b))+1, a, b)
	if err != api.OK {
		return nil, err
	}
	return m.vec(m.sum(a, b))
}

// Sub: one less the other.
func Sub(g *gate.Graph, a, b Vec) (Vec, api.Errno) {
	m, err := begin(g, max(len(a), len(b))+1, a, b)
	if err != api.OK {
		return nil, err
	}
	return m.vec(m.difference(a, b))
}

// Times: one times the other.
func Times(g *gate.Graph, a, b Vec) (Vec, api.Errno) {
	m, err := begin(g, len(a)+len(b), a, b)
	if err != api.OK {
		return nil, err
	}
	// There is a round for each bit of b: fewer gates, if that is the shorter one.
	if len(a) < len(b) {
		a, b = b, a
	}
	return m.vec(m.product(a, b))
}

// sum: in one bit more than the longer one has.
func (m *maker) sum(a, b Vec) Vec {
	sum := make(Vec, max(len(a), len(b))+1)
	carry := api.False
	for i := range sum {
		if i > 0 {
			carry = m.most(a.at(i-1), b.at(i-1), carry)
		}
		sum[i] = m.odd(a.at(i), b.at(i), carry)
	}
	return sum
}

// difference: a less b, as -1 less the sum of -1 less a and b: so it needs no carry to begin with.
func (m *maker) difference(a, b Vec) Vec {
	return m.turn(m.sum(m.turn(a), b))
}

// product goes through the bits of b, the lowest first. Of what is added up the lowest bit is done in each round; the rest has as many bits as a.
func (m *maker) product(a, b Vec) Vec {
	product := make(Vec, 0, len(a)+len(b))
	rest := make(Vec, len(a)) // False, all of it: 0
	for i, e := range b {
		next := m.difference
		if i < len(b)-1 {
			next = m.sum
		}
		added := next(rest, m.where(e, a))
		product = append(product, added[0])
		rest = added[1:]
	}
	return append(product, rest...)
}

// where: a, if c is, else 0.
func (m *maker) where(c api.Edge, a Vec) Vec {
	masked := make(Vec, len(a))
	for i, e := range a {
		masked[i] = m.and(c, e)
	}
	return masked
}
