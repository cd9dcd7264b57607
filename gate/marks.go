package gate

import "lariat/api"

// A block is so great that a full graph has few of them, and that one alone costs little.
const blockSize = 4096

type block [blockSize]bool

// marks is whether gates are marked, by blocks, which are there where one is: so few gates of a great graph cost little.
type marks []*block

func (g *Graph) noMarks() marks {
	return make(marks, (g.Len()-1)/blockSize+1)
}

func (m marks) has(gate int) bool {
	b := m[gate/blockSize]
	return b != nil && b[gate%blockSize]
}

func (m marks) add(gate int) {
	at := gate / blockSize
	if m[at] == nil {
		m[at] = new(block)
	}
	m[at][gate%blockSize] = true
}

// says: what an Edge says, where the marked gates are those that are true.
func (m marks) says(e api.Edge) bool {
	return m.has(number(e)) != turned(e)
}
