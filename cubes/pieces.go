package cubes

// How far neighbours are from each other at most: the square of the distance of their middles.
const (
	byEdge   = 1
	byCorner = 2
)

// pieces of the squares of one kind: the squares of each.
func pieces(m Image, kind byte, far int) [][]corner {
	met := map[corner]int{}
	var out [][]corner
	for y := range len(m) {
		for x := range width(m) {
			at := corner{x, y}
			if _, ok := met[at]; ok || m[y][x] != kind {
				continue
			}
			met[at] = len(out)
			out = append(out, grown(m, at, far, met))
		}
	}
	return out
}

// grown is the piece of a square that was just met; all of it is met then.
func grown(m Image, start corner, far int, met map[corner]int) []corner {
	piece := []corner{start}
	for i := 0; i < len(piece); i++ {
		for _, at := range neighbours(m, piece[i], far) {
			if _, ok := met[at]; ok {
				continue
			}
			met[at] = met[start]
			piece = append(piece, at)
		}
	}
	return piece
}

// neighbours of a square that are of its kind; itself among them.
func neighbours(m Image, at corner, far int) []corner {
	var out []corner
	for y := -1; y <= 1; y++ {
		for x := -1; x <= 1; x++ {
			next := at.plus(x, y)
			if x*x+y*y <= far && inside(m, next) && m[next.y][next.x] == m[at.y][at.x] {
				out = append(out, next)
			}
		}
	}
	return out
}

func touchesRim(m Image, piece []corner) bool {
	for _, at := range piece {
		if at.x == 0 || at.y == 0 || at.x == width(m)-1 || at.y == len(m)-1 {
			return true
		}
	}
	return false
}
