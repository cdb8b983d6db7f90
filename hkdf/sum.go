package hkdf

import (
	"math/bits"

	"drawbridge/api"
)

const (
	blockSize  = 64 // in bytes
	sumSize    = 32
	wordSize   = 4
	lengthSize = 8 // of the number of bits behind the bytes
)

// Sum returns the SHA-256 of all of b, one after the other.
func Sum(b ...[]byte) [32]byte {
	pieces, blocks := padded(b)
	state := [8]uint32{
		0x6a09e667, 0xbb67ae85, 0x3c6ef372, 0xa54ff53a, 0x510e527f, 0x9b05688c, 0x1f83d9ab, 0x5be0cd19,
	}
	for range blocks {
		var block [16]uint32
		block, pieces = cut(pieces)
		state = compress(state, block)
	}
	var sum [sumSize]byte
	for i := range sum {
		sum[i] = byte(state[i/wordSize] >> (24 - 8*(i%wordSize)))
	}
	return sum
}

// Pad returns what follows n bytes: up to a multiple of a block, with the number of their bits at the end.
func Pad(n int64) []byte {
	n = max(n, 0)
	zeros := (2*blockSize - 1 - lengthSize - n%blockSize) % blockSize
	b := make([]byte, 1+zeros+lengthSize)
	b[0] = 0x80
	size := uint64(n) * 8
	for i := range lengthSize {
		b[len(b)-1-i] = byte(size >> (8 * i))
	}
	return b
}

// padded returns the pieces of b and their padding, and how many blocks these are together.
func padded(b [][]byte) (pieces [][]byte, blocks int64) {
	size := int64(0)
	for _, piece := range b {
		size += int64(len(piece))
	}
	pad := Pad(size)
	// A list of its own, for cut writes into the one that it is given.
	pieces = append(make([][]byte, 0, len(b)+1), b...)
	return append(pieces, pad), (size + int64(len(pad))) / blockSize
}

// cut returns the words of the first block of the pieces, and what is left of them, in the same list.
func cut(pieces [][]byte) (block [16]uint32, rest [][]byte) {
	n := 0
full:
	for i, piece := range pieces {
		for j, c := range piece {
			block[n/wordSize] = block[n/wordSize]<<8 | uint32(c)
			n++
			if n == blockSize {
				rest = pieces[i:]
				rest[0] = piece[j+1:]
				break full
			}
		}
	}
	return block, rest
}

// compress returns the state after the block.
func compress(state [8]uint32, block [16]uint32) [8]uint32 {
	w := schedule(block)
	a, b, c, d, e, f, g, h := state[0], state[1], state[2], state[3], state[4], state[5], state[6], state[7]
	for i := range len(w) {
		t := h + (right(e, 6) ^ right(e, 11) ^ right(e, 25)) + (e&f ^ ^e&g) + api.Round[i] + w[i]
		u := (right(a, 2) ^ right(a, 13) ^ right(a, 22)) + (a&b ^ a&c ^ b&c)
		a, b, c, d, e, f, g, h = t+u, a, b, c, d+t, e, f, g
	}
	for i, word := range [8]uint32{a, b, c, d, e, f, g, h} {
		state[i] += word
	}
	return state
}

// schedule returns the words of all rounds for the block, whose own are the first.
func schedule(block [16]uint32) [64]uint32 {
	var w [64]uint32
	first := copy(w[:], block[:])
	for i := range len(w) - first {
		s0 := right(w[i+1], 7) ^ right(w[i+1], 18) ^ w[i+1]>>3
		s1 := right(w[i+14], 17) ^ right(w[i+14], 19) ^ w[i+14]>>10
		w[first+i] = s1 + w[i+9] + s0 + w[i]
	}
	return w
}

// right returns w rotated right by n.
func right(w uint32, n int) uint32 {
	return bits.RotateLeft32(w, -n)
}
