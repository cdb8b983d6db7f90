package config_test

import (
	"bytes"
	"math"
	"math/big"
	"math/rand"
	"slices"
	"testing"

	"drawbridge/api"
	"drawbridge/config"
)

// number is b followed by the bytes of a number (layer 1), by its sentence.
func number(b []byte, x uint64) []byte {
	p := new(big.Int).SetUint64(x).Bytes()
	return append(append(b, byte(len(p))), p...)
}

// written is the chapter's sentence about the bytes of a configuration, valid or not, where none of its numbers is below 0.
func written(c api.Config) []byte {
	b := number(nil, uint64(len(c.Peers)))
	for _, m := range c.Peers {
		b = append(number(b, uint64(m.ID)), m.Key[:]...)
		if m.Off {
			b = append(b, 1, 1)
		} else {
			b = append(b, 0)
		}
	}
	b = number(b, uint64(len(c.Routes)))
	for _, r := range c.Routes {
		b = number(number(number(b, uint64(r.Addr)), uint64(r.Bits)), uint64(r.Peer))
	}
	return b
}

// writtenOp is the chapter's sentence about the bytes of an operation, valid or not.
func writtenOp(o api.Op) []byte {
	b := number(number(number(nil, uint64(o.Kind)), o.Ref), uint64(o.ID))
	return number(number(append(b, o.Key[:]...), uint64(o.Addr)), uint64(o.Bits))
}

// reads checks that b is refused, or read as the valid configuration of which it is the bytes.
func reads(t *testing.T, b []byte) bool {
	t.Helper()
	c, e := config.Read(b)
	if e == api.OK && (!valid(c) || !bytes.Equal(written(c), b)) || e != api.OK && (e != api.ErrBad || !zero(c)) {
		t.Fatalf("%x: %v %d", b, c, e)
	}
	return e == api.OK
}

// readsOp checks that b is refused, or read as the valid operation of which it is the bytes.
func readsOp(t *testing.T, b []byte) bool {
	t.Helper()
	o, e := config.ReadOp(b)
	if e == api.OK && (!validOp(o) || !bytes.Equal(writtenOp(o), b)) || e != api.OK && (e != api.ErrBad || o != api.Op{}) {
		t.Fatalf("%x: %v %d", b, o, e)
	}
	return e == api.OK
}

// refused checks that b is the bytes of nothing.
func refused(t *testing.T, b []byte) {
	t.Helper()
	if reads(t, b) {
		t.Fatalf("%x is a configuration", b)
	}
}

// refusedOp checks that b is the bytes of nothing.
func refusedOp(t *testing.T, b []byte) {
	t.Helper()
	if readsOp(t, b) {
		t.Fatalf("%x is an operation", b)
	}
}

// someOps are valid operations that differ in much.
func someOps() []api.Op {
	return []api.Op{
		{Kind: api.OpPeer, ID: 1},
		{Kind: api.OpPeer, Ref: math.MaxUint64, ID: api.MaxID, Key: key(3)},
		{Kind: api.OpOff, Ref: 255, ID: 255},
		{Kind: api.OpDrop, Ref: 256, ID: 300},
		{Kind: api.OpRoute, Ref: 1 << 63, ID: 2, Addr: ip(10, 1, 0, 0), Bits: 16},
		{Kind: api.OpRoute, ID: 70, Addr: math.MaxUint32, Bits: 32},
		{Kind: api.OpRoute, Ref: 9, ID: 70},
		{Kind: api.OpBlock},
		{Kind: api.OpBlock, Ref: 7, Addr: 1 << 31, Bits: 1},
	}
}

// P8.2: Bytes and Read

func TestBytes(t *testing.T) {
	k := key(1)
	join := func(p ...[]byte) []byte { return bytes.Join(p, nil) }
	for _, x := range []struct {
		c api.Config
		b []byte
	}{
		{api.Config{}, []byte{0, 0}},
		{api.Config{Peers: []api.Member{{ID: 1, Key: k}}}, join([]byte{1, 1, 1, 1}, k[:], []byte{0, 0})},
		{api.Config{Peers: []api.Member{{ID: 65536, Key: k, Off: true}}}, join([]byte{1, 1, 3, 1, 0, 0}, k[:], []byte{1, 1, 0})},
		{api.Config{Peers: []api.Member{{ID: 300, Key: k}}, Routes: []api.Route{{Addr: ip(10, 0, 0, 0), Bits: 8, Peer: 300}}},
			join([]byte{1, 1, 2, 1, 44}, k[:], []byte{0, 1, 1, 4, 10, 0, 0, 0, 1, 8, 2, 1, 44})},
		{api.Config{Peers: []api.Member{{ID: 1}, {ID: 2, Key: k, Off: true}}, Routes: []api.Route{{Peer: 2}, {Addr: math.MaxUint32, Bits: 32, Peer: 1}}},
			join([]byte{1, 2, 1, 1}, make([]byte, 32), []byte{0, 1, 2}, k[:], []byte{1, 1, 1, 2, 0, 0, 1, 2, 4, 255, 255, 255, 255, 1, 32, 1, 1})},
	} {
		if b, e := config.Bytes(x.c); !bytes.Equal(b, x.b) || e != api.OK {
			t.Errorf("%v: %x %d and not %x", x.c, b, e, x.b)
		}
		if c, e := config.Read(x.b); !equal(c, x.c) || e != api.OK {
			t.Errorf("%x: %v %d and not %v", x.b, c, e, x.c)
		}
	}
}

func TestBytesAndReadOfMany(t *testing.T) {
	all := append(some(), full(63, 255), full(2, 100))
	for _, c := range some()[:6] {
		all = append(all, changed(c)...)
	}
	r := rand.New(rand.NewSource(87))
	for range 20000 {
		all = append(all, small(r))
	}
	known := map[bool]int{}
	for _, c := range all {
		known[valid(c)]++
		b, e := config.Bytes(c)
		if !valid(c) {
			if len(b) != 0 || cap(b) != 0 || e != api.ErrArg {
				t.Fatalf("%v: %x %d", c, b, e)
			}
			reads(t, written(c))
			continue
		}
		if !bytes.Equal(b, written(c)) || e != api.OK {
			t.Fatalf("%v: %x %d", c, b, e)
		}
		if d, e := config.Read(b); !equal(c, d) || e != api.OK {
			t.Fatalf("%v: %v %d", c, d, e)
		}
	}
	if known[true] < 500 || known[false] < 5000 {
		t.Error(known)
	}
}

func TestReadOfWrongBytes(t *testing.T) {
	many := func(n int) []api.Route { return full(1, n).Routes }
	peer := []api.Member{{ID: 536}}
	for _, b := range [][]byte{
		nil,
		{0},
		{1},
		{1, 0, 0}, // a number with a byte too many
		{0, 1, 0}, // a number with a byte too many
		{0, 0, 0}, // a byte is left
		{9, 0},    // no number
		{0, 9},    // no number
		{8, 255, 255, 255, 255, 255, 255, 255, 255},    // more peers than there can be
		{0, 8, 255, 255, 255, 255, 255, 255, 255, 255}, // more routes than there can be
		{8, 128, 0, 0, 0, 0, 0, 0, 0, 0},
		{8, 1, 0, 0, 0, 0, 0, 0, 0, 0},
		{1, 1},
		{1, 65},
		{0, 2, 1, 1},
		written(full(65, 0)),
		written(full(64, 257)),
		written(full(1000, 1000)),
		written(api.Config{Peers: []api.Member{{ID: 0}}}),
		written(api.Config{Peers: []api.Member{{ID: 65537}}}),
		written(api.Config{Peers: []api.Member{{ID: 2}, {ID: 1}}}),
		written(api.Config{Peers: []api.Member{{ID: 2}, {ID: 2}}}),
		written(api.Config{Peers: peer, Routes: []api.Route{{Peer: 1}}}),
		written(api.Config{Peers: peer, Routes: []api.Route{{Addr: 1, Peer: 536}}}),
		written(api.Config{Peers: peer, Routes: []api.Route{{Bits: 33, Peer: 536}}}),
		written(api.Config{Peers: peer, Routes: []api.Route{{Bits: 1<<32 + 1, Peer: 536}}}),
		written(api.Config{Peers: peer, Routes: []api.Route{{Bits: 2, Peer: 536}, {Bits: 1, Peer: 536}}}),
		written(api.Config{Routes: []api.Route{{}}}),
		written(api.Config{Peers: peer, Routes: slices.Concat(many(3), many(3))}),
		append(written(example()), make([]byte, 1<<16)...),
		bytes.Repeat([]byte{1}, 1000),
		bytes.Repeat([]byte{255}, 1000),
	} {
		refused(t, b)
	}
}

// Numbers that are what is asked for only in their lower bits are none of that.
func TestReadOfGreatNumbers(t *testing.T) {
	head := func(id, off uint64) []byte { return number(append(number([]byte{1, 1}, id), make([]byte, 32)...), off) }
	for _, great := range []uint64{1 << 8, 1 << 16, 1 << 31, 1 << 32, 1 << 33, 1 << 62, 1 << 63} {
		if great > api.MaxID {
			refused(t, append(head(1+great, 0), 0))
		}
		refused(t, append(head(1, great), 0))
		refused(t, append(head(1, 1+great), 0))
		tail := number(head(1, 0), 1)
		if great >= 1<<32 {
			refused(t, append(number(tail, great), 0, 1, 1))
			refused(t, append(number(tail, great+1), 1, 32, 1, 1))
		}
		refused(t, append(number(append(bytes.Clone(tail), 0), great), 1, 1))
		refused(t, append(number(append(bytes.Clone(tail), 0), great+1), 1, 1))
		refused(t, number(append(bytes.Clone(tail), 0, 0), 1+great))
		refused(t, number(head(1, 0), great+1))
		for _, o := range []api.Op{{Kind: api.OpRoute, ID: 1, Bits: 1}} {
			b := append(number(number(number(nil, uint64(o.Kind)+great), 0), 1), make([]byte, 32)...)
			refusedOp(t, append(b, 0, 0))
			b = append(number(number(number(nil, uint64(o.Kind)), 0), 1+great), make([]byte, 32)...)
			if great > api.MaxID {
				refusedOp(t, append(b, 0, 0))
			}
			b = append(number(number(number(nil, uint64(o.Kind)), 0), 1), make([]byte, 32)...)
			refusedOp(t, number(append(bytes.Clone(b), 0), great))
			refusedOp(t, number(append(bytes.Clone(b), 0), great+1))
			if great >= 1<<32 {
				refusedOp(t, append(number(b, great), 0))
				refusedOp(t, append(number(b, great+1), 1, 32))
			}
		}
	}
	if !reads(t, append(head(1, 1), 0)) || !reads(t, append(head(1, 0), 1, 1, 0, 0, 1, 1)) || reads(t, append(head(1, 2), 0)) {
		t.Error("head")
	}
}

// Each piece of the bytes, each byte behind them and each other byte in them is refused, or is another one's bytes.
func TestReadOfChangedBytes(t *testing.T) {
	for _, c := range some()[:6] {
		b := written(c)
		for n := range b {
			refused(t, b[:n])
		}
		for x := range 256 {
			refused(t, append(written(c), byte(x)))
			for i := range b {
				other := bytes.Clone(b)
				other[i] = byte(x)
				reads(t, other)
			}
		}
	}
}

func TestReadOfBytesCutAndMoved(t *testing.T) {
	r := rand.New(rand.NewSource(88))
	for _, c := range some() {
		b := written(c)
		for range 500 {
			i, j := r.Intn(len(b)+1), r.Intn(len(b)+1)
			reads(t, slices.Concat(b[:min(i, j)], b[max(i, j):]))
			reads(t, slices.Concat(b[:i], b[j:]))
			reads(t, slices.Insert(bytes.Clone(b), i, byte(r.Intn(9))))
		}
	}
}

// P8.2: OpBytes and ReadOp

func TestOpBytes(t *testing.T) {
	k := key(1)
	for _, x := range []struct {
		o api.Op
		b []byte
	}{
		{api.Op{Kind: api.OpPeer, Ref: 9, ID: 300, Key: k}, slices.Concat([]byte{1, 1, 1, 9, 2, 1, 44}, k[:], []byte{0, 0})},
		{api.Op{Kind: api.OpOff, ID: 65536}, slices.Concat([]byte{1, 2, 0, 3, 1, 0, 0}, make([]byte, 34))},
		{api.Op{Kind: api.OpDrop, Ref: math.MaxUint64, ID: 1}, slices.Concat([]byte{1, 3, 8, 255, 255, 255, 255, 255, 255, 255, 255, 1, 1}, make([]byte, 34))},
		{api.Op{Kind: api.OpRoute, Ref: 256, ID: 2, Addr: ip(10, 1, 0, 0), Bits: 16},
			slices.Concat([]byte{1, 4, 2, 1, 0, 1, 2}, make([]byte, 32), []byte{4, 10, 1, 0, 0, 1, 16})},
		{api.Op{Kind: api.OpBlock, Addr: 1, Bits: 32}, slices.Concat([]byte{1, 5, 0, 0}, make([]byte, 32), []byte{1, 1, 1, 32})},
	} {
		if b, e := config.OpBytes(x.o); !bytes.Equal(b, x.b) || e != api.OK {
			t.Errorf("%v: %x %d and not %x", x.o, b, e, x.b)
		}
		if o, e := config.ReadOp(x.b); o != x.o || e != api.OK {
			t.Errorf("%x: %v %d and not %v", x.b, o, e, x.o)
		}
	}
}

func TestOpBytesAndReadOpOfAllEdges(t *testing.T) {
	for _, o := range append(ops(), someOps()...) {
		b, e := config.OpBytes(o)
		if !validOp(o) {
			if len(b) != 0 || cap(b) != 0 || e != api.ErrArg {
				t.Fatalf("%v: %x %d", o, b, e)
			}
			refusedOp(t, writtenOp(o))
			continue
		}
		if !bytes.Equal(b, writtenOp(o)) || e != api.OK {
			t.Fatalf("%v: %x %d", o, b, e)
		}
		if p, e := config.ReadOp(b); o != p || e != api.OK {
			t.Fatalf("%v: %v %d", o, p, e)
		}
	}
}

func TestReadOpOfWrongBytes(t *testing.T) {
	good := writtenOp(api.Op{Kind: api.OpBlock, Bits: 4})
	for _, b := range [][]byte{
		nil,
		{0},
		{1, 1},
		bytes.Repeat([]byte{1}, 100),
		bytes.Repeat([]byte{255}, 100),
		make([]byte, 37),
		make([]byte, 100),
		append(bytes.Clone(good), 0),
		append(bytes.Clone(good), make([]byte, 1<<16)...),
		slices.Concat([]byte{2, 0}, good[1:]),
		slices.Concat(good[:2], []byte{1, 0}, good[3:]), // the 0 of Ref has a byte too many
		slices.Concat(good[:3], []byte{1, 0}, good[4:]), // the 0 of ID has a byte too many
		good[:36],
	} {
		refusedOp(t, b)
	}
	if !readsOp(t, good) {
		t.Errorf("%x", good)
	}
}

// Each piece of the bytes, each byte behind them and each other byte in them is refused, or is another one's bytes.
func TestReadOpOfChangedBytes(t *testing.T) {
	for _, o := range someOps() {
		b := writtenOp(o)
		for n := range b {
			refusedOp(t, b[:n])
		}
		for x := range 256 {
			refusedOp(t, append(writtenOp(o), byte(x)))
			for i := range b {
				other := bytes.Clone(b)
				other[i] = byte(x)
				readsOp(t, other)
			}
		}
	}
}

// Rules 3, 4 and 6

// ruin changes all of the memory of b.
func ruin(b []byte) {
	for i := range b[:cap(b)] {
		b[:cap(b)][i] = 0x77
	}
}

func TestBytesAreNewMemory(t *testing.T) {
	for _, c := range some() {
		d := roomy(c)
		was := clone(spare(d))
		b, _ := config.Bytes(d)
		again, _ := config.Bytes(d)
		if bytes.ContainsFunc(b[len(b):cap(b)], func(x rune) bool { return x != 0 }) {
			t.Errorf("spare: %x", b[:cap(b)])
		}
		ruin(b)
		if !bytes.Equal(again, written(c)) || !equal(spare(d), was) {
			t.Errorf("%x", again)
		}
	}
	for _, o := range someOps() {
		b, _ := config.OpBytes(o)
		again, _ := config.OpBytes(o)
		ruin(b)
		if third, _ := config.OpBytes(o); !bytes.Equal(again, writtenOp(o)) || !bytes.Equal(third, again) {
			t.Errorf("%x", again)
		}
	}
}

func TestReadIsNewMemory(t *testing.T) {
	for _, c := range some() {
		all := append(written(c), 1, 2, 3)
		b := all[:len(all)-3]
		was := bytes.Clone(all)
		d, e := config.Read(b)
		if e != api.OK || !bytes.Equal(all, was) {
			t.Fatalf("%x %d", all, e)
		}
		other, _ := config.Read(b)
		ruin(b)
		isNew(t, other, api.Config{}, api.Config{})
		if !equal(c, d) {
			t.Errorf("%v and not %v", d, c)
		}
	}
	for _, o := range someOps() {
		all := append(writtenOp(o), 1, 2, 3)
		was := bytes.Clone(all)
		if p, e := config.ReadOp(all[:len(all)-3]); p != o || e != api.OK || !bytes.Equal(all, was) {
			t.Errorf("%v %d", p, e)
		}
	}
}

func TestReadOfNilAndEmpty(t *testing.T) {
	for _, b := range [][]byte{nil, {}, []byte{0, 0}[:0], make([]byte, 0, 9)} {
		refused(t, b)
		refusedOp(t, b)
	}
}
