package reeb

func (g Graph) has(node int) bool { return node >= 0 && node < len(g.Nodes) }

// meeting of nodes: each leads to a lesser one of its piece, the least one to itself.
type meeting []int

// apart: nothing has met.
func apart(n int) meeting {
	out := make(meeting, n)
	for i := range out {
		out[i] = i
	}
	return out
}

// least node of a piece.
func (m meeting) least(node int) int {
	for m[node] != node {
		m[node] = m[m[node]] // so that long ways are gone once
		node = m[node]
	}
	return node
}

// join two nodes; false: they are of one piece already.
func (m meeting) join(a, b int) bool {
	a, b = m.least(a), m.least(b)
	m[max(a, b)] = min(a, b)
	return a != b
}
