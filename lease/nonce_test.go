package lease_test

import (
	"encoding/binary"
	"math"
	"math/rand"
	"testing"

	"drawbridge/lease"
)

// nonce is the chapter's sentence about a nonce.
func nonce(epoch uint32, n uint64) [12]byte {
	b := binary.BigEndian.AppendUint32(nil, epoch)
	return [12]byte(binary.BigEndian.AppendUint64(b, n))
}

// isNonce checks both ways of a nonce.
func isNonce(t *testing.T, epoch uint32, n uint64) {
	t.Helper()
	if got := lease.Nonce(epoch, n); got != nonce(epoch, n) {
		t.Fatalf("%d %d: %x", epoch, n, got)
	}
	if e, x := lease.Split(nonce(epoch, n)); e != epoch || x != n {
		t.Fatalf("%d %d: split to %d %d", epoch, n, e, x)
	}
}

// P6.2

func TestNonce(t *testing.T) {
	want := [12]byte{1, 2, 3, 4, 5, 6, 7, 8, 9, 10, 11, 12}
	if got := lease.Nonce(0x01020304, 0x05060708090a0b0c); got != want {
		t.Errorf("%x", got)
	}
	if e, n := lease.Split(want); e != 0x01020304 || n != 0x05060708090a0b0c {
		t.Errorf("%x %x", e, n)
	}
	if got := lease.Nonce(0, 0); got != [12]byte{} {
		t.Errorf("%x", got)
	}
	if got := lease.Nonce(0xf1e2d3c4, 0xb5a69788796a5b4c); got != [12]byte{0xf1, 0xe2, 0xd3, 0xc4, 0xb5, 0xa6, 0x97, 0x88, 0x79, 0x6a, 0x5b, 0x4c} {
		t.Errorf("%x", got)
	}
}

// Numbers above MaxCounter, and epochs that nobody has, are numbers too.
func TestNonceOfAllEdges(t *testing.T) {
	for _, epoch := range []uint32{0, 1, 2, 255, 256, 257, 65535, 65536, 1<<24 - 1, 1 << 24, 1<<31 - 1, 1 << 31, math.MaxUint32 - 1, math.MaxUint32} {
		for _, n := range numbers() {
			isNonce(t, epoch, n)
		}
	}
}

func TestNonceOfEachBit(t *testing.T) {
	for i := range 32 {
		isNonce(t, 1<<i, 0)
		isNonce(t, ^uint32(1<<i), math.MaxUint64)
	}
	for i := range 64 {
		isNonce(t, 0, 1<<i)
		isNonce(t, math.MaxUint32, ^uint64(1<<i))
	}
}

// P6.3

func TestDifferentPairsHaveDifferentNonces(t *testing.T) {
	type pair struct {
		epoch uint32
		n     uint64
	}
	r := rand.New(rand.NewSource(63))
	pairs := map[[12]byte]pair{}
	check := func(p pair) {
		t.Helper()
		x := lease.Nonce(p.epoch, p.n)
		if other, there := pairs[x]; there && other != p {
			t.Fatalf("%v and %v: %x", p, other, x)
		}
		pairs[x] = p
		if e, n := lease.Split(x); e != p.epoch || n != p.n {
			t.Fatalf("%v: %d %d", p, e, n)
		}
	}
	for epoch := range uint32(300) {
		for n := range uint64(300) {
			check(pair{epoch, n})
		}
	}
	for range 100000 {
		// Few bits set, so that numbers that are neighbours or trade places between the two come often.
		check(pair{1<<r.Intn(32) | 1<<r.Intn(32), 1<<r.Intn(64) | 1<<r.Intn(64)})
		check(pair{r.Uint32(), r.Uint64()})
	}
}

// Rule 3

func TestSplitChangesNoNonce(t *testing.T) {
	b := make([]byte, 12)
	copy(b, "abcdefghijkl")
	x := [12]byte(b)
	lease.Split(x)
	if string(x[:]) != "abcdefghijkl" || string(b) != "abcdefghijkl" {
		t.Errorf("%x %x", x, b)
	}
}
