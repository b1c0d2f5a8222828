package exact

import (
	"cmp"
	"math"
	"math/bits"
	"slices"

	"recast/api"
)

// The words of a size stand as in api.Int: the lowest first.
const wordBits = 32

// trimmed is the words without noughts at the end: the same memory.
func trimmed(mag []uint32) []uint32 {
	n := len(mag)
	for n > 0 && mag[n-1] == 0 {
		n--
	}
	return mag[:n]
}

// large is whether trimmed words have more than MaxBits binary digits.
func large(mag []uint32) bool {
	last := len(mag) - 1
	return last >= 0 && last*wordBits+bits.Len32(mag[last]) > api.MaxBits
}

// compared is -1, 0 or 1, of trimmed words.
func compared(a, b []uint32) int {
	if len(a) != len(b) {
		return cmp.Compare(len(a), len(b))
	}
	for i := len(a) - 1; i >= 0; i-- {
		if a[i] != b[i] {
			return cmp.Compare(a[i], b[i])
		}
	}
	return 0
}

// added is a + b.
func added(a, b []uint32) []uint32 {
	sum := make([]uint32, max(len(a), len(b))+1)
	copy(sum, a)
	addTimes(sum, b, 1)
	return sum
}

// taken is a - b, where a is not below b.
func taken(a, b []uint32) []uint32 {
	rest := slices.Clone(a)
	takeTimes(rest, b, 1)
	return rest
}

// multiplied is a times b.
func multiplied(a, b []uint32) []uint32 {
	product := make([]uint32, len(a)+len(b))
	for i, word := range a {
		addTimes(product[i:i+len(b)+1], b, word)
	}
	return product
}

// divided is the quotient of a by b and the rest, b trimmed and not 0.
func divided(a, b []uint32) (q, r []uint32) {
	// Both grow by one factor, which sets the highest bit of b: no guess is then more than 2 too great. The quotient stays, the rest grows with them.
	factor := uint32(1) << bits.LeadingZeros32(b[len(b)-1])
	r = multiplied(a, []uint32{factor})
	b = trimmed(multiplied(b, []uint32{factor}))
	q = make([]uint32, max(len(a)-len(b)+1, 0))
	for i := len(q) - 1; i >= 0; i-- {
		q[i] = takeMost(r[i:i+len(b)+1], b)
	}
	divideByWord(r, factor)
	return q, r
}

// takeMost takes b from the words of rest as often as it goes, and answers how often. Rest has one word more than b; without its lowest word it is below b, whose highest bit is set.
func takeMost(rest, b []uint32) (times uint32) {
	n := len(b)
	highest := uint64(rest[n])<<wordBits | uint64(rest[n-1])
	times = uint32(min(highest/uint64(b[n-1]), math.MaxUint32))
	// What was taken too often wraps rest round; giving it back wraps it round again.
	tooOften := takeTimes(rest, b, times) > 0
	for tooOften {
		times--
		tooOften = addTimes(rest, b, 1) == 0
	}
	return times
}

// addTimes adds b times word to the words of sum, which are no fewer than b's, and answers what goes beyond them.
func addTimes(sum, b []uint32, word uint32) (carry uint32) {
	for i := range sum {
		product := uint64(carry)
		if i < len(b) {
			product += uint64(b[i]) * uint64(word)
		}
		low := uint32(product)
		carry = uint32(product >> wordBits)
		sum[i] += low
		// A sum below what was added has wrapped round. Carry has room for it: low is 0 beside the greatest carry.
		if sum[i] < low {
			carry++
		}
	}
	return carry
}

// takeTimes takes b times word from the words of rest, which are no fewer than b's, and answers what was wanting beyond them.
func takeTimes(rest, b []uint32, word uint32) (borrow uint32) {
	for i := range rest {
		product := uint64(borrow)
		if i < len(b) {
			product += uint64(b[i]) * uint64(word)
		}
		low := uint32(product)
		borrow = uint32(product >> wordBits)
		// Borrow has room, as carry has in addTimes.
		if rest[i] < low {
			borrow++
		}
		rest[i] -= low
	}
	return borrow
}

// divideByWord divides the words of mag in their place, and answers the rest.
func divideByWord(mag []uint32, word uint32) (rest uint32) {
	for i := len(mag) - 1; i >= 0; i-- {
		part := uint64(rest)<<wordBits | uint64(mag[i])
		mag[i] = uint32(part / uint64(word))
		rest = uint32(part % uint64(word))
	}
	return rest
}
