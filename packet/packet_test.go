package packet_test

import (
	"bytes"
	"math"
	"strings"
	"testing"

	"drawbridge/api"
	"drawbridge/packet"
)

// The second reading of the chapter: its table of fields, as texts.

// has are the fields of a kind, in the order of their bytes; no field for what is no kind.
func has(kind int) []string {
	switch kind {
	case 1:
		return strings.Fields("Kind Peer Random Mark")
	case 2:
		return strings.Fields("Kind Session Epoch Random Mark")
	case 3:
		return strings.Fields("Kind Session Epoch Count Body")
	case 4:
		return strings.Fields("Kind Session")
	}
	return nil
}

// fault is the first field that the chapter's table does not allow; none of a valid packet.
func fault(p api.Packet) string {
	if has(p.Kind) == nil {
		return "Kind"
	}
	for _, x := range []struct {
		field      string
		zero, good bool
	}{
		{"Peer", p.Peer == 0, p.Peer > 0 && p.Peer < 65537},
		{"Session", p.Session == 0, p.Session > 0},
		{"Epoch", p.Epoch == 0, p.Epoch > 0},
		{"Count", p.Count == 0, p.Count > 0 && p.Count < 1<<60+1},
		{"Random", p.Random == [16]byte{}, true},
		{"Mark", p.Mark == [16]byte{}, true},
		{"Body", len(p.Body) == 0, len(p.Body) > 15 && len(p.Body) < 65553},
	} {
		ok := x.zero
		for _, named := range has(p.Kind) {
			if named == x.field {
				ok = x.good
			}
		}
		if !ok {
			return x.field
		}
	}
	return ""
}

func valid(p api.Packet) bool {
	return fault(p) == ""
}

// equal reports whether all fields are, byte by byte.
func equal(a, b api.Packet) bool {
	if a.Kind != b.Kind || a.Peer != b.Peer || a.Session != b.Session || a.Epoch != b.Epoch || a.Count != b.Count || len(a.Body) != len(b.Body) {
		return false
	}
	for i := range 16 {
		if a.Random[i] != b.Random[i] || a.Mark[i] != b.Mark[i] {
			return false
		}
	}
	for i := range a.Body {
		if a.Body[i] != b.Body[i] {
			return false
		}
	}
	return true
}

// nothing reports whether p is the zero packet, without any memory.
func nothing(p api.Packet) bool {
	return equal(p, api.Packet{}) && cap(p.Body) == 0
}

// Packets

// bytes16 are sixteen bytes that all differ, from x on.
func bytes16(x byte) (a [16]byte) {
	for i := range a {
		a[i] = x + byte(i)
	}
	return a
}

// unlike is a secret whose bytes all differ.
func unlike() (secret [32]byte) {
	for i := range secret {
		secret[i] = byte(i*37 + 11)
	}
	return secret
}

// some are n bytes, the same ones each time, any 251 of which in a row differ.
func some(n int) []byte {
	b := make([]byte, n)
	for i := range b {
		b[i] = byte(i % 251)
	}
	return b
}

// packets are valid ones that differ in much.
func packets() []api.Packet {
	return []api.Packet{
		{Kind: api.PktHello, Peer: 1},
		{Kind: api.PktHello, Peer: 300, Random: bytes16(1), Mark: bytes16(100)},
		{Kind: api.PktHello, Peer: 65536, Random: [16]byte{15: 1}, Mark: [16]byte{0: 1}},
		{Kind: api.PktAnswer, Session: 1, Epoch: 1},
		{Kind: api.PktAnswer, Session: 0x0102030405060708, Epoch: 0x090a0b0c, Random: bytes16(50), Mark: bytes16(200)},
		{Kind: api.PktAnswer, Session: math.MaxUint64, Epoch: math.MaxUint32, Random: [16]byte{0: 1}, Mark: [16]byte{15: 1}},
		{Kind: api.PktData, Session: 1, Epoch: 1, Count: 1, Body: make([]byte, 16)},
		{Kind: api.PktData, Session: 300, Epoch: 70000, Count: 1 << 40, Body: some(33)},
		{Kind: api.PktData, Session: math.MaxUint64, Epoch: math.MaxUint32, Count: 1 << 60, Body: some(300)},
		{Kind: api.PktWho, Session: 5},
		{Kind: api.PktWho, Session: 256},
		{Kind: api.PktWho, Session: math.MaxUint64},
	}
}

// edges are packets, valid or not, of all that the fields may be where something changes.
func edges() []api.Packet {
	var all []api.Packet
	for kind := -1; kind <= 6; kind++ {
		for _, peer := range []int{-1, 0, 1, 65536, 65537} {
			for _, session := range []uint64{0, 1, math.MaxUint64} {
				for _, epoch := range []uint32{0, 1, math.MaxUint32} {
					for _, count := range []uint64{0, 1, 1 << 60, 1<<60 + 1} {
						all = append(all, arrays(api.Packet{Kind: kind, Peer: peer, Session: session, Epoch: epoch, Count: count})...)
					}
				}
			}
		}
	}
	return all
}

// arrays are p with each Random, Mark and Body of edges.
func arrays(p api.Packet) []api.Packet {
	var all []api.Packet
	for _, random := range [][16]byte{{}, {15: 1}} {
		for _, mark := range [][16]byte{{}, {0: 1}} {
			for _, size := range []int{0, 1, 15, 16, 65552, 65553} {
				p.Random, p.Mark, p.Body = random, mark, long[:size]
				all = append(all, p)
			}
		}
	}
	return all
}

// long is the beginning of the Body of edges, of which there are too many for one each.
var long = some(1 << 17)

// changed are packets, valid or not, each of which differs from p in one field at most.
func changed(p api.Packet) []api.Packet {
	var all []api.Packet
	change := func(f func(*api.Packet)) {
		q := p
		f(&q)
		all = append(all, q)
	}
	for _, x := range []int{math.MinInt, math.MinInt32, -65536, -256, -4, -3, -2, -1, 0, 1, 2, 3, 4, 5, 6, 7, 8, 255, 256, 257, 258, 259, 260, 300,
		65535, 65536, 65537, 65538, 1 << 31, 1 << 32, 1<<32 + 1, 1<<32 + 3, math.MaxInt} {
		change(func(q *api.Packet) { q.Kind = x })
		change(func(q *api.Packet) { q.Peer = x })
	}
	for _, x := range []uint64{0, 1, 2, 255, 256, 65535, 65536, 1<<32 - 1, 1 << 32, 1<<60 - 1, 1 << 60, 1<<60 + 1, 1 << 61, 1 << 63, math.MaxUint64} {
		change(func(q *api.Packet) { q.Session = x })
		change(func(q *api.Packet) { q.Count = x })
		change(func(q *api.Packet) { q.Epoch = uint32(x) })
		change(func(q *api.Packet) { q.Epoch = uint32(x >> 8) })
	}
	for i := range 16 {
		change(func(q *api.Packet) { q.Random[i] ^= 0x80 })
		change(func(q *api.Packet) { q.Mark[i] ^= 1 })
	}
	for _, x := range []int{0, 1, 2, 15, 16, 17, 18, 31, 32, 33, 255, 256, 257, 65535, 65536, 65537, 65551, 65552, 65553, 65554, 1 << 17} {
		change(func(q *api.Packet) { q.Body = some(x) })
	}
	for i := range min(len(p.Body), 40) {
		change(func(q *api.Packet) { q.Body = bytes.Clone(q.Body); q.Body[len(q.Body)-1-i] ^= 0x10 })
	}
	change(func(q *api.Packet) { q.Body = nil })
	change(func(q *api.Packet) { q.Body = make([]byte, 0, 20) })
	return all
}

// Examples

func TestExamples(t *testing.T) {
	if b, e := packet.Bytes(api.Packet{Kind: api.PktWho, Session: 5}); !bytes.Equal(b, []byte{1, 4, 1, 5}) || e != api.OK {
		t.Errorf("%x %d", b, e)
	}
	p := sealed(t, unlike(), api.ToGate, 1, 1, 1, []byte("hello"))
	p.Body[len(p.Body)-1] ^= 0xff
	refusedOpen(t, unlike(), api.ToGate, p, api.ErrTag)
}

// P9.1: Check

func TestCheck(t *testing.T) {
	for _, p := range packets() {
		if e := packet.Check(p); e != api.OK {
			t.Errorf("%v: %d", p, e)
		}
	}
	for _, p := range []api.Packet{
		{},
		{Kind: 5, Session: 1},
		{Kind: -1, Session: 1},
		{Kind: api.PktHello},
		{Kind: api.PktHello, Peer: -1},
		{Kind: api.PktHello, Peer: 65537},
		{Kind: api.PktHello, Peer: 1, Session: 1},
		{Kind: api.PktHello, Peer: 1, Epoch: 1},
		{Kind: api.PktHello, Peer: 1, Count: 1},
		{Kind: api.PktHello, Peer: 1, Body: some(16)},
		{Kind: api.PktAnswer, Session: 1},
		{Kind: api.PktAnswer, Epoch: 1},
		{Kind: api.PktAnswer, Session: 1, Epoch: 1, Peer: 1},
		{Kind: api.PktAnswer, Session: 1, Epoch: 1, Count: 1},
		{Kind: api.PktAnswer, Session: 1, Epoch: 1, Body: some(1)},
		{Kind: api.PktData, Epoch: 1, Count: 1, Body: some(16)},
		{Kind: api.PktData, Session: 1, Count: 1, Body: some(16)},
		{Kind: api.PktData, Session: 1, Epoch: 1, Body: some(16)},
		{Kind: api.PktData, Session: 1, Epoch: 1, Count: 1<<60 + 1, Body: some(16)},
		{Kind: api.PktData, Session: 1, Epoch: 1, Count: 1},
		{Kind: api.PktData, Session: 1, Epoch: 1, Count: 1, Body: some(15)},
		{Kind: api.PktData, Session: 1, Epoch: 1, Count: 1, Body: some(65553)},
		{Kind: api.PktData, Session: 1, Epoch: 1, Count: 1, Body: some(16), Peer: 1},
		{Kind: api.PktData, Session: 1, Epoch: 1, Count: 1, Body: some(16), Random: [16]byte{15: 1}},
		{Kind: api.PktData, Session: 1, Epoch: 1, Count: 1, Body: some(16), Mark: [16]byte{0: 1}},
		{Kind: api.PktWho},
		{Kind: api.PktWho, Session: 1, Peer: 1},
		{Kind: api.PktWho, Session: 1, Epoch: 1},
		{Kind: api.PktWho, Session: 1, Count: 1},
		{Kind: api.PktWho, Session: 1, Random: [16]byte{0: 1}},
		{Kind: api.PktWho, Session: 1, Mark: [16]byte{15: 1}},
		{Kind: api.PktWho, Session: 1, Body: []byte{0}},
	} {
		if e := packet.Check(p); e != api.ErrArg {
			t.Errorf("%v: %d", p, e)
		}
	}
}

func TestCheckOfAllEdges(t *testing.T) {
	known := map[bool]int{}
	check := func(p api.Packet) {
		want := api.OK
		if !valid(p) {
			want = api.ErrArg
		}
		known[valid(p)]++
		if e := packet.Check(p); e != want {
			t.Fatalf("kind %d, peer %d, session %d, epoch %d, count %d, random %x, mark %x, %d bytes: %d and not %d",
				p.Kind, p.Peer, p.Session, p.Epoch, p.Count, p.Random, p.Mark, len(p.Body), e, want)
		}
	}
	for _, p := range edges() {
		check(p)
	}
	for _, p := range packets() {
		for _, q := range changed(p) {
			check(q)
		}
	}
	if known[true] < 200 || known[false] < 10000 {
		t.Error(known)
	}
}

// P9.1: Same

// Packets that are not valid have the same fields.
func TestSame(t *testing.T) {
	every := append(packets(), api.Packet{}, api.Packet{Kind: -1, Peer: -1, Session: 7, Epoch: 7, Count: 1 << 61, Random: bytes16(7), Mark: bytes16(8), Body: some(7)})
	for i, p := range every {
		for j, q := range every {
			if got := packet.Same(p, q); got != (i == j) {
				t.Errorf("%v and %v: %t", p, q, got)
			}
		}
		same := 0
		for _, q := range changed(p) {
			if got, other := packet.Same(p, q), packet.Same(q, p); got != equal(p, q) || other != got {
				t.Fatalf("%v and %v: %t %t", p, q, got, other)
			}
			if equal(p, q) {
				same++
			}
		}
		if same == 0 {
			t.Errorf("%v: no change is none", p)
		}
	}
}

func TestSameOfBodies(t *testing.T) {
	for _, x := range []struct {
		a, b []byte
		want bool
	}{
		{nil, nil, true},
		{nil, []byte{}, true},
		{[]byte{}, some(9)[:0], true},
		{nil, []byte{0}, false},
		{some(20), some(20), true},
		{some(20), some(21)[:20], true},
		{some(20), some(19), false},
		{some(20), append(some(20), 0), false},
		{[]byte{1, 2}, []byte{2, 1}, false},
		{[]byte{1, 2}, []byte{1, 3}, false},
		{some(65552), some(65552), true},
		{some(65552), append(some(65551), 0), false},
	} {
		if got := packet.Same(api.Packet{Kind: 3, Body: x.a}, api.Packet{Kind: 3, Body: x.b}); got != x.want {
			t.Errorf("%d and %d bytes: %t", len(x.a), len(x.b), got)
		}
	}
}

// Rules 3 and 4

// roomy is p with a Body that has spare capacity, and all memory of that.
func roomy(p api.Packet) (api.Packet, []byte) {
	all := append(bytes.Clone(p.Body), bytes.Repeat([]byte{0xee}, 200)...)
	p.Body = all[:len(p.Body)]
	return p, all
}

// ruin changes all of the memory of b.
func ruin(b []byte) {
	for i := range b[:cap(b)] {
		b[:cap(b)][i] = 0x77
	}
}

// isNew checks that nothing is in the spare capacity of b.
func isNew(t *testing.T, b []byte) {
	t.Helper()
	if rest := b[len(b):cap(b)]; bytes.ContainsFunc(rest, func(x rune) bool { return x != 0 }) {
		t.Fatalf("spare: %x", rest)
	}
}

func TestNoPacketIsChanged(t *testing.T) {
	for _, p := range packets() {
		for _, q := range changed(p) {
			if len(q.Body) > 1000 {
				continue
			}
			r, all := roomy(q)
			was := bytes.Clone(all)
			packet.Check(r)
			packet.Bytes(r)
			packet.Along(r)
			packet.Open(unlike(), 0, r)
			packet.Same(r, p)
			packet.Same(p, r)
			if !equal(r, q) || !bytes.Equal(all, was) {
				t.Fatalf("%v: %x", q, all)
			}
		}
	}
}

func TestNilAndEmptyAreTheSame(t *testing.T) {
	for _, p := range packets() {
		if len(p.Body) > 0 {
			continue
		}
		want, _ := packet.Bytes(p)
		for _, body := range [][]byte{nil, {}, make([]byte, 0, 9), some(70)[:0]} {
			q := p
			q.Body = body
			b, e := packet.Bytes(q)
			if packet.Check(q) != api.OK || !packet.Same(p, q) || !packet.Same(q, p) || !bytes.Equal(b, want) || e != api.OK {
				t.Errorf("%v: %x %d", q, b, e)
			}
		}
	}
}
