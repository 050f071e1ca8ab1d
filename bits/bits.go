// Package bits is layer 1: numbers and their bits: see DOC.md and doc/01-bits.md.
package bits

import (
	mbits "math/bits"

	"bridleway/api"
)

// Zig is a number with a sign as one without: 0, -1, 1, -2 are 0, 1, 2, 3.
func Zig(n int64) uint64 {
	return uint64(n)<<1 ^ uint64(n>>63)
}

// Zag is the number of which u is Zig.
func Zag(u uint64) int64 {
	return int64(u>>1) ^ -int64(u&1)
}

// Add is the sum of two counts, at most Most.
func Add(a, b uint64) uint64 {
	return atMost(atMost(a) + atMost(b))
}

// Times is the product of two counts, at most Most.
func Times(a, b uint64) uint64 {
	high, low := mbits.Mul64(atMost(a), atMost(b))
	if high > 0 {
		return api.Most
	}
	return atMost(low)
}

// Log is the place of the highest bit that is 1, or -1.
func Log(u uint64) int {
	return mbits.Len64(u) - 1
}

// Fits tells whether n is a number of wide bits, one of which is its sign.
func Fits(n int64, wide int) bool {
	return Cut(n, wide) == n
}

// Cut is the number of wide bits, one of which is its sign, that has n's lowest bits.
func Cut(n int64, wide int) int64 {
	away := 64 - between(wide, 1, 64)
	return n << away >> away
}

// Pack is two numbers in one.
func Pack(a, b uint32) uint64 {
	return uint64(a)<<32 | uint64(b)
}

// Parts is the two numbers of which u is Pack.
func Parts(u uint64) (a, b uint32) {
	return uint32(u >> 32), uint32(u)
}

// Shift is u's bits n places up, or -n places down.
func Shift(u uint64, n int) uint64 {
	switch {
	case n >= 64 || n <= -64:
		return 0
	case n >= 0:
		return u << n
	}
	return u >> -n
}

// Turn is u's lowest wide bits in the other order.
func Turn(u uint64, wide int) uint64 {
	return mbits.Reverse64(u) >> (64 - between(wide, 0, 64))
}

// Count is how many bits are 1.
func Count(u uint64) int {
	return mbits.OnesCount64(u)
}

func atMost(u uint64) uint64 {
	return min(u, api.Most)
}

func between(n, least, most int) int {
	return max(least, min(n, most))
}
