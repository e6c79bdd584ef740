// Package word has 64-bit numbers, granules, and fields of words.
package word

import (
	"math/bits"

	"skerry/api"
)

// width is how many bits a word has.
const width = 64

// unsigned is what a field is cut from: shifted down, it fills up with zeros.
type unsigned interface {
	~uint8 | ~uint16 | ~uint32 | ~uint64
}

// Add returns the sum of a and b.
func Add(a, b uint64) (uint64, api.Errno) {
	sum, carry := bits.Add64(a, b, 0)
	return inRange(sum, carry)
}

// Sub returns the difference of a and b.
func Sub(a, b uint64) (uint64, api.Errno) {
	difference, borrow := bits.Sub64(a, b, 0)
	return inRange(difference, borrow)
}

// Mul returns the product of a and b.
func Mul(a, b uint64) (uint64, api.Errno) {
	beyond, product := bits.Mul64(a, b)
	return inRange(product, beyond)
}

// inRange returns x, or ErrOver if there is anything beyond its 64 bits.
func inRange(x, beyond uint64) (uint64, api.Errno) {
	if beyond != 0 {
		return 0, api.ErrOver
	}
	return x, api.OK
}

// Up returns how many granules n words need.
func Up(n int) int {
	if n < 1 {
		return 0
	}
	// Rounding up by n + Granule - 1 would overflow at the greatest n.
	return (n-1)/api.Granule + 1
}

// Down returns how many whole granules n words contain.
func Down(n int) int {
	if n < 1 {
		return 0
	}
	return n / api.Granule
}

// Bits returns the field of v at the bit at, of n bits.
func Bits(v uint64, at, n int) (uint64, api.Errno) {
	if !isField(at, n) {
		return 0, api.ErrArg
	}
	return cut(v, at, n), api.OK
}

// Lay returns v with x as the field at the bit at, of n bits.
func Lay(v uint64, at, n int, x uint64) (uint64, api.Errno) {
	if !isField(at, n) || cut(x, 0, n) != x {
		return 0, api.ErrArg
	}
	before := cut(v, at, n)
	return v&^(before<<at) | x<<at, api.OK
}

// isField tells whether a word has n bits from the bit at on, at least one.
func isField(at, n int) bool {
	// Not at + n <= width: that sum may overflow. An n above width leaves no at.
	return n >= 1 && at >= 0 && at <= width-n
}

// cut returns the n bits of v from the bit at on. It relies on isField.
func cut[T unsigned](v T, at, n int) T {
	return v >> at & (T(1)<<n - 1)
}

// Ones returns how many bits of v are 1.
func Ones(v uint64) int {
	count := 0
	for at := range width {
		count += int(cut(v, at, 1))
	}
	return count
}

// Low returns the lowest bit of v that is 1, or 64 if there is none.
func Low(v uint64) int {
	return bits.TrailingZeros64(v)
}
