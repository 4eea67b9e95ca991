// Package whole: natural numbers of any size, for what no machine word holds on the way.
package whole

import (
	"math"
	"math/bits"
)

// Nat: words of 64 bits, the least one first, the last one not 0 (so 0 has none). Nobody writes into one that is made: they may share memory.
type Nat []uint64

// Of a machine word.
func Of(x uint64) Nat {
	if x == 0 {
		return nil
	}
	return Nat{x}
}

// Word: the number as a machine word; false: it is too great for one.
func (a Nat) Word() (uint64, bool) {
	switch len(a) {
	case 0:
		return 0, true
	case 1:
		return a[0], true
	}
	return 0, false
}

// IsZero?
func (a Nat) IsZero() bool { return len(a) == 0 }

// IsOne?
func (a Nat) IsOne() bool { return len(a) == 1 && a[0] == 1 }

// Compare is below 0, 0 or above 0, as a is less than b, b, or more.
func (a Nat) Compare(b Nat) int {
	if len(a) != len(b) {
		return len(a) - len(b)
	}
	for i := len(a) - 1; i >= 0; i-- {
		if a[i] < b[i] {
			return -1
		}
		if a[i] > b[i] {
			return 1
		}
	}
	return 0
}

func trim(a Nat) Nat {
	n := len(a)
	for n > 0 && a[n-1] == 0 {
		n--
	}
	return a[:n]
}

// Plus is the sum.
func (a Nat) Plus(b Nat) Nat {
	if len(a) < len(b) {
		a, b = b, a
	}
	out := make(Nat, len(a)+1)
	copy(out, a)
	addInto(out, b)
	return trim(out)
}

// Minus is the difference; 0, if b is more than a.
func (a Nat) Minus(b Nat) Nat {
	if a.Compare(b) <= 0 {
		return nil
	}
	out := make(Nat, len(a))
	copy(out, a)
	subtractInto(out, b, 1)
	return trim(out)
}

// Times is the product.
func (a Nat) Times(b Nat) Nat {
	if len(a) == 0 || len(b) == 0 {
		return nil
	}
	out := make(Nat, len(a)+len(b))
	for i, x := range a {
		var carry uint64
		for k, y := range b {
			high, low := bits.Mul64(x, y)
			var c uint64
			low, c = bits.Add64(low, carry, 0)
			high += c
			out[i+k], c = bits.Add64(out[i+k], low, 0)
			carry = high + c
		}
		out[i+len(b)] = carry
	}
	return trim(out)
}

// Power is a times itself, n times.
func (a Nat) Power(n int) Nat {
	out := Of(1)
	for ; n > 0; n >>= 1 {
		if n&1 == 1 {
			out = out.Times(a)
		}
		if n > 1 {
			a = a.Times(a)
		}
	}
	return out
}

// Divide is quotient and remainder; by 0, these are 0 and a.
func (a Nat) Divide(b Nat) (quotient, remainder Nat) {
	if len(b) == 0 || a.Compare(b) < 0 {
		return nil, a
	}
	if len(b) == 1 {
		return divideByWord(a, b[0])
	}
	return divideLong(a, b)
}

func divideByWord(a Nat, b uint64) (Nat, Nat) {
	out := make(Nat, len(a))
	var rest uint64
	for i := len(a) - 1; i >= 0; i-- {
		out[i], rest = bits.Div64(rest, a[i], b)
	}
	return trim(out), Of(rest)
}

// divideLong is division as on paper, with words as digits; b is shifted up, so that its first word tells each digit to within two.
func divideLong(a, b Nat) (Nat, Nat) {
	n := len(b)
	shift := bits.LeadingZeros64(b[n-1])
	below := shiftUp(b, shift)[:n]
	rest := shiftUp(a, shift)
	out := make(Nat, len(a)-n+1)
	for i := len(out) - 1; i >= 0; i-- {
		out[i] = digit(rest[i:i+n+1], below)
	}
	return trim(out), trim(shiftDown(rest[:n], shift))
}

// digit of a quotient: its multiple of b is taken from rest.
func digit(rest, b Nat) uint64 {
	n := len(b)
	guess := uint64(math.MaxUint64)
	if rest[n] < b[n-1] {
		guess, _ = bits.Div64(rest[n], rest[n-1], b[n-1])
	}
	below := subtractInto(rest, b, guess)
	for below > 0 {
		guess--
		below -= addInto(rest, b)
	}
	return guess
}

// shiftUp by less than a word, into one word more than a has.
func shiftUp(a Nat, by int) Nat {
	out := make(Nat, len(a)+1)
	var carry uint64
	for i, x := range a {
		out[i] = x<<by | carry
		carry = x >> (64 - by)
	}
	out[len(a)] = carry
	return out
}

func shiftDown(a Nat, by int) Nat {
	out := make(Nat, len(a))
	var carry uint64
	for i := len(a) - 1; i >= 0; i-- {
		out[i] = a[i]>>by | carry
		carry = a[i] << (64 - by)
	}
	return out
}

// addInto adds b to a, which is as long at least, in place; what runs over is answered.
func addInto(a, b Nat) uint64 {
	var carry uint64
	for i := range a {
		if i >= len(b) && carry == 0 {
			return 0
		}
		var y uint64
		if i < len(b) {
			y = b[i]
		}
		a[i], carry = bits.Add64(a[i], y, carry)
	}
	return carry
}

// subtractInto takes b, times so many, from a, which is as long at least, in place; what is lacking is answered.
func subtractInto(a, b Nat, times uint64) uint64 {
	var carry uint64
	for i := range a {
		if i >= len(b) && carry == 0 {
			return 0
		}
		var high, low, c uint64
		if i < len(b) {
			high, low = bits.Mul64(b[i], times)
		}
		low, c = bits.Add64(low, carry, 0)
		high += c
		a[i], c = bits.Sub64(a[i], low, 0)
		carry = high + c
	}
	return carry
}

// Gcd: the greatest number that divides both; of 0 and a number, that number.
func (a Nat) Gcd(b Nat) Nat {
	for len(b) > 0 {
		_, rest := a.Divide(b)
		a, b = b, rest
	}
	return a
}

// Inverse is a number below mod whose product with a is, but for multiples of mod, the Gcd of both.
func (a Nat) Inverse(mod Nat) Nat {
	_, low := a.Divide(mod)
	high := mod
	var ofHigh Nat
	ofLow := Of(1)
	negative := true // the two are told without signs, which change places at each step
	for len(low) > 0 {
		quotient, rest := high.Divide(low)
		high, low = low, rest
		ofHigh, ofLow = ofLow, ofHigh.Plus(quotient.Times(ofLow))
		negative = !negative
	}
	_, out := ofHigh.Divide(mod)
	if negative && len(out) > 0 {
		return mod.Minus(out)
	}
	return out
}
