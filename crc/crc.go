// Package crc is layer 1: see shared/doc/01-crc.md.
package crc

import "math"

// polynomial is IEEE 802.3's, its bits turned round, as the sum takes each byte from its lowest bit on.
const polynomial = 0xEDB88320

// Sum is the CRC-32 of s, from 0 to 2^32 - 1.
func Sum(s string) int {
	state := ^uint32(0)
	// By an index: a range over the text would tell runes, and bytes are summed.
	for i := range len(s) {
		state = step(state, s[i])
	}
	return int(^state)
}

// step is the state behind one more byte.
func step(state uint32, b byte) uint32 {
	state ^= uint32(b)
	for range 8 {
		lowest := state & 1
		state >>= 1
		if lowest == 1 {
			state ^= polynomial
		}
	}
	return state
}

// Print is the lowest four bits of the Sum of s: a fingerprint from 0 to 15.
func Print(s string) int { return Sum(s) & 15 }

// Bytes is the four bytes of n, the lowest one first; nothing, if n has no place in four bytes.
func Bytes(n int) string {
	if n < 0 || n > math.MaxUint32 {
		return ""
	}
	rest := uint32(n)
	var out [4]byte
	for i := range out {
		out[i] = byte(rest)
		rest >>= 8
	}
	return string(out[:])
}
