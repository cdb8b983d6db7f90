package journal

import (
	"iter"

	"drawbridge/api"
	"drawbridge/octet"
)

const (
	longest  = api.MaxList // bytes in a frame
	wordSize = 4
	ahead    = 2 * wordSize // the bytes of a frame ahead of its record
)

// Frame returns the frame of p; ErrLong if p is too long.
func Frame(p []byte) ([]byte, api.Errno) {
	if len(p) > longest {
		return nil, api.ErrLong
	}
	return appendFrame(make([]byte, 0, ahead+len(p)), p), api.OK
}

// Frames returns the records of all complete frames from the beginning of b on, and how many bytes these frames have.
func Frames(b []byte) (l [][]byte, n int) {
	for p, at := range visit(b) {
		l = append(l, copied(p))
		n = at + len(p)
	}
	return l, n
}

// visit yields the record of each complete frame from the beginning of b on, as a piece of b, and the position at which it
// begins there.
func visit(b []byte) iter.Seq2[[]byte, int] {
	return func(yield func([]byte, int) bool) {
		for at := 0; ; {
			p, ok := first(b[at:])
			if !ok || !yield(p, at+ahead) {
				return
			}
			at += ahead + len(p)
		}
	}
}

// first returns the record of the frame at the beginning of b, as a piece of b, if that is complete.
func first(b []byte) ([]byte, bool) {
	if len(b) < ahead {
		return nil, false
	}
	size := word(b)
	if size > longest || int(size) > len(b)-ahead {
		return nil, false
	}
	p := b[ahead : ahead+int(size)]
	if word(b[wordSize:]) != octet.Sum(b[:wordSize], p) {
		return nil, false
	}
	return p, true
}

func appendFrame(b, p []byte) []byte {
	size := appendWord(nil, uint32(len(p)))
	b = append(b, size...)
	b = appendWord(b, octet.Sum(size, p))
	return append(b, p...)
}

func appendWord(b []byte, x uint32) []byte {
	return append(b, byte(x>>24), byte(x>>16), byte(x>>8), byte(x))
}

// word returns the number that the first four bytes of b are.
func word(b []byte) uint32 {
	return uint32(b[0])<<24 | uint32(b[1])<<16 | uint32(b[2])<<8 | uint32(b[3])
}

// copied returns new memory also for a piece without bytes, which would else keep all that it is a piece of.
func copied(p []byte) []byte {
	return append([]byte(nil), p...)
}
