package label

// house: small triangles are its rooms; its labels were asked.
type house struct {
	labels []int
	rooms  [][3]int
}

// door: of 0, 1, 2 only 0 and 1 have the sum 1.
func (h house) door(side [2]int) bool {
	return h.labels[side[0]]+h.labels[side[1]] == 1
}

// enter by a door of the rim, and go on: the rooms on the way, and whether one is outside in the end. No room is come to twice, as none has more than two doors: so it ends.
func (h house) enter(door [2]int) (way []int, outside bool) {
	var left [3]int // at first no room: corners of one are never the same
	for {
		at, ok := h.beyond(door, left)
		if !ok {
			return way, true
		}
		way = append(way, at)
		left = h.rooms[at]
		if door, ok = h.other(left, door); !ok {
			return way, false
		}
	}
}

// beyond a door: the room that has it, but the one that is left.
func (h house) beyond(door [2]int, left [3]int) (int, bool) {
	for at, room := range h.rooms {
		if room != left && has(room, door) {
			return at, true
		}
	}
	return 0, false
}

func has(room [3]int, side [2]int) bool {
	for _, s := range sides(room) {
		if s == side {
			return true
		}
	}
	return false
}

// other door of a room.
func (h house) other(room [3]int, door [2]int) ([2]int, bool) {
	for _, s := range sides(room) {
		if s != door && h.door(s) {
			return s, true
		}
	}
	return [2]int{}, false
}
