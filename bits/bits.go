// Package bits is layer 1: see shared/doc/01-bits.md.
package bits

import (
	mathbits "math/bits"
	"slices"
)

// most is how many bytes a number has at most.
const most = 8

// fits tells whether a number can have so many bytes.
func fits(n int) bool { return n >= 1 && n <= most }

// Put answers a number as bytes, the lowest first.
func Put(x uint64, n int) []byte {
	if !fits(n) {
		return nil
	}
	b := make([]byte, n)
	for i := range b {
		b[i] = byte(x >> (8 * i))
	}
	return b
}

// Big answers a number as bytes, the highest first.
func Big(x uint64, n int) []byte {
	b := Put(x, n)
	slices.Reverse(b)
	return b
}

// Get answers the number that bytes are, the lowest first.
func Get(b []byte) (uint64, bool) {
	if !fits(len(b)) {
		return 0, false
	}
	var x uint64
	for i, c := range b {
		x |= uint64(c) << (8 * i)
	}
	return x, true
}

// GetBig answers the number that bytes are, the highest first.
func GetBig(b []byte) (uint64, bool) {
	if !fits(len(b)) {
		return 0, false
	}
	var x uint64
	for _, c := range b {
		x = x<<8 | uint64(c)
	}
	return x, true
}

// Turn32 turns 32 bits to the left, or to the right by a number below 0.
func Turn32(x uint32, n int) uint32 { return mathbits.RotateLeft32(x, n) }

// Turn64 turns 64 bits to the left, or to the right by a number below 0.
func Turn64(x uint64, n int) uint64 { return mathbits.RotateLeft64(x, n) }

// Flip32 answers bits in the other order.
func Flip32(x uint32) uint32 { return mathbits.Reverse32(x) }
