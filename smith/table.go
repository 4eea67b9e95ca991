package smith

import "handlebody/whole"

// table of remainders from which a matrix's factors are taken one by one. Remainders by a multiple of the last factor are enough, as of the determinant of a greatest square that is not 0: entries do not grow. (By another number, they tell what each factor has in common with it.)
//
// Whatever is done to rows is an adding of one to another: it holds for whole numbers, too, and for the right sides of equations, which stand behind the columns.
type table struct {
	mod    whole.Nat // a multiple of the product of the last factors that are left, each less what was divided out
	covers int       // how many these are, at most
	factor whole.Nat // the last one that was taken; what was divided out
	left   int       // how many there are still
	cols   int       // a row has these, and maybe right sides
	rows   [][]whole.Nat
}

func newTable(grid [][]int, cols int, mod whole.Nat, left, covers int) *table {
	t := &table{mod: mod, covers: covers, factor: whole.Of(1), left: left, cols: cols}
	for _, row := range grid {
		l := make([]whole.Nat, len(row))
		for k, x := range row {
			l[k] = t.remainder(x)
		}
		t.rows = append(t.rows, l)
	}
	return t
}

// factors of all; false: one is above MaxFactor.
func (t *table) factors() ([]int, bool) {
	out := make([]int, 0, t.left)
	for range t.left {
		t.next()
		x, ok := told(t.factor)
		if !ok {
			return nil, false
		}
		out = append(out, x)
	}
	return out, true
}

func (t *table) remainder(x int) whole.Nat {
	if x >= 0 {
		return t.reduced(whole.Of(uint64(x)))
	}
	return t.opposite(t.reduced(whole.Of(uint64(-x))))
}

func (t *table) reduced(x whole.Nat) whole.Nat {
	_, rest := x.Divide(t.mod)
	return rest
}

// opposite of a remainder: with it, it makes up 0.
func (t *table) opposite(x whole.Nat) whole.Nat {
	return t.reduced(t.mod.Minus(x))
}

// next factor is taken; false: a right side is no multiple of it, where all that is left of its row is one.
func (t *table) next() bool {
	if t.mod.IsOne() {
		t.left--
		return true
	}
	common := t.content(t.rows)
	if !t.rightSidesDivide(common) {
		return false
	}
	t.divideOut(common)
	t.factor = t.factor.Times(common)
	t.left--
	if t.left > 0 && !t.mod.IsOne() {
		t.bringUnit()
		t.dropFirst()
	}
	return true
}

// content: what divides all entries of rows, right sides left out, and mod.
func (t *table) content(rows [][]whole.Nat) whole.Nat {
	out := t.mod
	for _, row := range rows {
		for _, x := range row[:t.cols] {
			if out.IsOne() {
				return out
			}
			out = out.Gcd(x)
		}
	}
	return out
}

func (t *table) rightSidesDivide(by whole.Nat) bool {
	for _, row := range t.rows {
		for _, x := range row[t.cols:] {
			if _, rest := x.Divide(by); !rest.IsZero() {
				return false
			}
		}
	}
	return true
}

// divideOut what divides all entries. Each factor that is left is a multiple of it, so mod has it as often as it covers such.
func (t *table) divideOut(common whole.Nat) {
	if common.IsOne() {
		return
	}
	t.mod, _ = t.mod.Divide(common.Power(min(t.left, t.covers)))
	for _, row := range t.rows {
		for k, x := range row {
			quotient, _ := x.Divide(common)
			row[k] = t.reduced(quotient)
		}
	}
}

// bringUnit to the first place: an entry that has nothing in common with mod. It can be done, as all entries together have nothing in common with it: first the first row comes to have nothing, by adding others to it, then the first place, by adding columns.
func (t *table) bringUnit() {
	first := t.content(t.rows[:1])
	for i := 1; !first.IsOne() && i < len(t.rows); i++ {
		both := first.Gcd(t.content(t.rows[i : i+1]))
		if both.Compare(first) < 0 {
			t.addRow(0, i, t.times(first, both))
			first = both
		}
	}
	corner := t.mod.Gcd(t.rows[0][0])
	for k := 1; !corner.IsOne() && k < t.cols; k++ {
		both := corner.Gcd(t.rows[0][k])
		if both.Compare(corner) < 0 {
			t.addToFirstCol(k, t.times(corner, both))
			corner = both
		}
	}
}

// times: how often something must be added to what has just first in common with mod, that just both stays in common: not at all for the primes of mod that the one lacks already, not as a multiple of the others.
func (t *table) times(first, both whole.Nat) whole.Nat {
	out, _ := t.mod.Divide(both)
	taken, _ := first.Divide(both)
	for {
		common := out.Gcd(taken)
		if common.IsOne() {
			return out
		}
		out, _ = out.Divide(common)
	}
}

func (t *table) addRow(to, from int, times whole.Nat) {
	for k, x := range t.rows[from] {
		t.rows[to][k] = t.sum(t.rows[to][k], x, times)
	}
}

func (t *table) addToFirstCol(from int, times whole.Nat) {
	for _, row := range t.rows {
		row[0] = t.sum(row[0], row[from], times)
	}
}

func (t *table) sum(x, y, times whole.Nat) whole.Nat {
	if y.IsZero() {
		return x
	}
	return t.reduced(x.Plus(y.Times(times)))
}

// dropFirst row and column, once the others have 0 at the first place. (What the first row has behind it could be taken away by columns, which changes no other row.)
func (t *table) dropFirst() {
	inverse := t.rows[0][0].Inverse(t.mod)
	for i, row := range t.rows {
		if i > 0 && !row[0].IsZero() {
			t.addRow(i, 0, t.opposite(t.reduced(row[0].Times(inverse))))
		}
	}
	t.rows = t.rows[1:]
	for i, row := range t.rows {
		t.rows[i] = row[1:]
	}
	t.cols--
}
