// Package octet is layer 1: see shared/doc/01-octet.md.
package octet

import (
	"math/bits"

	"drawbridge/api"
)

const (
	longest    = 8          // the most bytes that a number needs
	polynomial = 0xedb88320 // of the checksum, its lowest bit first
)

// table has the word of each byte, as Word tells it. The calls of the chapter do not read it: they ask steps.
var table = func() [256]uint32 {
	var words [256]uint32
	for i := range words {
		words[i] = steps(uint32(i))
	}
	return words
}()

// Number returns b followed by the bytes of x.
func Number(b []byte, x uint64) []byte {
	return appendNumber(withRoom(b, 1+longest), x)
}

// Block returns b followed by the bytes of the block p; ErrLong if p is too long.
func Block(b, p []byte) ([]byte, api.Errno) {
	if len(p) > api.MaxBlock {
		return nil, api.ErrLong
	}
	head := appendNumber(withRoom(b, 1+longest+len(p)), uint64(len(p)))
	return append(head, p...), api.OK
}

// Sum returns the checksum of all of b, one after the other.
func Sum(b ...[]byte) uint32 {
	sum := ^uint32(0)
	for _, piece := range b {
		for _, c := range piece {
			sum = steps(sum ^ uint32(c))
		}
	}
	return ^sum
}

// Word returns what the eight steps of the checksum come to for the byte c alone. It stands beside the calls of the
// chapter, for one that takes a byte's steps at once: they make sum>>8 ^ Word(byte(sum)^c) of sum, whose bits are
// inverted at the end alone.
func Word(c byte) uint32 {
	return table[c]
}

// steps returns word after the eight steps of the checksum for a byte that it was xored with.
func steps(word uint32) uint32 {
	for range 8 {
		out := word & 1
		word >>= 1
		if out == 1 {
			word ^= polynomial
		}
	}
	return word
}

// withRoom copies b with room for as many bytes more, so that nothing is written behind the caller's bytes.
func withRoom(b []byte, room int) []byte {
	return append(make([]byte, 0, len(b)+room), b...)
}

func appendNumber(b []byte, x uint64) []byte {
	size := (bits.Len64(x) + 7) / 8
	b = append(b, byte(size))
	for i := size - 1; i >= 0; i-- {
		b = append(b, byte(x>>(8*i)))
	}
	return b
}
