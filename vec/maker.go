package vec

import (
	"lariat/api"
	"lariat/gate"
)

// maker makes gates, and keeps what went wrong, so that this is asked once, behind all. As all Edges were looked at ahead, only room may be lacking: then it lacks from there on.
type maker struct {
	g   *gate.Graph
	err api.Errno
}

// begin: a maker, if nothing is wrong with these numbers, nor with as many bits as come of them.
func begin(g *gate.Graph, width int, numbers ...Vec) (*maker, api.Errno) {
	for _, a := range numbers {
		if !fits(len(a)) {
			return nil, api.ErrVec
		}
	}
	if !fits(width) {
		return nil, api.ErrVec
	}
	for _, a := range numbers {
		for _, e := range a {
			if _, err := g.Not(e); err != api.OK {
				return nil, err
			}
		}
	}
	return &maker{g: g}, api.OK
}

func (m *maker) kept(e api.Edge, err api.Errno) api.Edge {
	if err != api.OK {
		m.err = err
	}
	return e
}

// vec: the answer, if nothing went wrong.
func (m *maker) vec(a Vec) (Vec, api.Errno) {
	if m.err != api.OK {
		return nil, m.err
	}
	return a, api.OK
}

// edge: the answer, if nothing went wrong.
func (m *maker) edge(e api.Edge) (api.Edge, api.Errno) {
	if m.err != api.OK {
		return api.False, m.err
	}
	return e, api.OK
}

func (m *maker) not(a api.Edge) api.Edge {
	return m.kept(m.g.Not(a))
}

func (m *maker) and(l ...api.Edge) api.Edge {
	return m.kept(m.g.And(l...))
}

func (m *maker) or(l ...api.Edge) api.Edge {
	return m.kept(m.g.Or(l...))
}

func (m *maker) same(a, b api.Edge) api.Edge {
	return m.kept(m.g.Same(a, b))
}

func (m *maker) choose(c, a, b api.Edge) api.Edge {
	return m.kept(m.g.If(c, a, b))
}

// most: are at least two of the three true?
func (m *maker) most(a, b, c api.Edge) api.Edge {
	return m.or(m.and(a, b), m.and(m.or(a, b), c))
}

// odd: are one or three of the three true? Whether c is the same as whether a and b are, as two turns are none.
func (m *maker) odd(a, b, c api.Edge) api.Edge {
	return m.same(m.same(a, b), c)
}

// turn: each bit the other one, which is the number -1 less a.
func (m *maker) turn(a Vec) Vec {
	turned := make(Vec, len(a))
	for i, e := range a {
		turned[i] = m.not(e)
	}
	return turned
}
