package packet_test

import (
	"bytes"
	"math"
	"math/big"
	"math/rand"
	"slices"
	"testing"

	"drawbridge/api"
	"drawbridge/packet"
)

// number is the bytes of a number (layer 1), by its sentence.
func number(x uint64) []byte {
	p := new(big.Int).SetUint64(x).Bytes()
	return append([]byte{byte(len(p))}, p...)
}

// block is the bytes of a block (layer 1), by its sentence.
func block(b []byte) []byte {
	return append(number(uint64(len(b))), b...)
}

// isNumber are the fields that are written as numbers.
func isNumber(field string) bool {
	return slices.Contains([]string{"Kind", "Peer", "Session", "Epoch", "Count"}, field)
}

// part is the chapter's sentence about the bytes of one field.
func part(p api.Packet, field string) []byte {
	switch field {
	case "Kind":
		return number(uint64(p.Kind))
	case "Peer":
		return number(uint64(p.Peer))
	case "Session":
		return number(p.Session)
	case "Epoch":
		return number(uint64(p.Epoch))
	case "Count":
		return number(p.Count)
	case "Random":
		return bytes.Clone(p.Random[:])
	case "Mark":
		return bytes.Clone(p.Mark[:])
	}
	return block(p.Body)
}

// parts are the bytes of the fields of the kind of p, one by one.
func parts(p api.Packet) [][]byte {
	var all [][]byte
	for _, field := range has(p.Kind) {
		all = append(all, part(p, field))
	}
	return all
}

// written is the chapter's sentence about the bytes of a packet, valid or not.
func written(p api.Packet) []byte {
	return bytes.Join(parts(p), nil)
}

// reads checks that b is refused, or read as the valid packet of which it is the bytes.
func reads(t *testing.T, b []byte) bool {
	t.Helper()
	p, e := packet.Read(b)
	if e == api.OK && (!valid(p) || !bytes.Equal(written(p), b)) || e != api.OK && (e != api.ErrBad || !nothing(p)) {
		t.Fatalf("%x: %v %d", b, p, e)
	}
	return e == api.OK
}

// refused checks that b is the bytes of nothing.
func refused(t *testing.T, b []byte) {
	t.Helper()
	if reads(t, b) {
		t.Fatalf("%x is a packet", b)
	}
}

// P9.1: Bytes and Read

func TestBytes(t *testing.T) {
	random, mark := bytes16(0x10), bytes16(0xa0)
	join := func(p ...[]byte) []byte { return bytes.Join(p, nil) }
	for _, x := range []struct {
		p api.Packet
		b []byte
	}{
		{api.Packet{Kind: api.PktHello, Peer: 1, Random: random, Mark: mark}, join([]byte{1, 1, 1, 1}, random[:], mark[:])},
		{api.Packet{Kind: api.PktHello, Peer: 300, Mark: mark}, join([]byte{1, 1, 2, 1, 44}, make([]byte, 16), mark[:])},
		{api.Packet{Kind: api.PktHello, Peer: 65536, Random: random}, join([]byte{1, 1, 3, 1, 0, 0}, random[:], make([]byte, 16))},
		{api.Packet{Kind: api.PktAnswer, Session: 1, Epoch: 2, Random: random, Mark: mark}, join([]byte{1, 2, 1, 1, 1, 2}, random[:], mark[:])},
		{api.Packet{Kind: api.PktAnswer, Session: math.MaxUint64, Epoch: math.MaxUint32, Random: random, Mark: mark},
			join([]byte{1, 2, 8, 255, 255, 255, 255, 255, 255, 255, 255, 4, 255, 255, 255, 255}, random[:], mark[:])},
		{api.Packet{Kind: api.PktData, Session: 1, Epoch: 2, Count: 3, Body: some(16)}, join([]byte{1, 3, 1, 1, 1, 2, 1, 3, 1, 16}, some(16))},
		{api.Packet{Kind: api.PktData, Session: 256, Epoch: 65536, Count: 1 << 60, Body: some(300)},
			join([]byte{1, 3, 2, 1, 0, 3, 1, 0, 0, 8, 16, 0, 0, 0, 0, 0, 0, 0, 2, 1, 44}, some(300))},
		{api.Packet{Kind: api.PktData, Session: 7, Epoch: 8, Count: 9, Body: some(65552)}, join([]byte{1, 3, 1, 7, 1, 8, 1, 9, 3, 1, 0, 16}, some(65552))},
		{api.Packet{Kind: api.PktWho, Session: 5}, []byte{1, 4, 1, 5}},
		{api.Packet{Kind: api.PktWho, Session: 1 << 32}, []byte{1, 4, 5, 1, 0, 0, 0, 0}},
	} {
		if b, e := packet.Bytes(x.p); !bytes.Equal(b, x.b) || e != api.OK {
			t.Errorf("%v: %x %d and not %x", x.p, b, e, x.b)
		}
		if p, e := packet.Read(x.b); !equal(p, x.p) || e != api.OK {
			t.Errorf("%x: %v %d and not %v", x.b, p, e, x.p)
		}
	}
}

func TestBytesAndReadOfAllEdges(t *testing.T) {
	known := map[bool]int{}
	check := func(p api.Packet) {
		known[valid(p)]++
		b, e := packet.Bytes(p)
		if !valid(p) {
			if len(b) != 0 || cap(b) != 0 || e != api.ErrArg {
				t.Fatalf("%v: %x %d", p, b, e)
			}
			// Some of these are the bytes of another packet: fields that the kind does not have are not written.
			reads(t, written(p))
			return
		}
		if !bytes.Equal(b, written(p)) || e != api.OK {
			t.Fatalf("%v: %x %d", p, b, e)
		}
		if q, e := packet.Read(b); !equal(p, q) || !packet.Same(p, q) || e != api.OK {
			t.Fatalf("%v: %v %d", p, q, e)
		}
	}
	for i, p := range edges() {
		// There is no need of all that are long.
		if len(p.Body) < 100 || valid(p) || i%50 == 0 {
			check(p)
		}
	}
	for _, p := range packets() {
		for _, q := range changed(p) {
			check(q)
		}
	}
	if known[true] < 200 || known[false] < 10000 {
		t.Error(known)
	}
}

// Bodies of each length have their own bytes.
func TestReadOfEachLength(t *testing.T) {
	for n := range 600 {
		p := api.Packet{Kind: api.PktData, Session: 1, Epoch: 1, Count: 1, Body: some(n)}
		if got := reads(t, written(p)); got != (n >= 16) {
			t.Fatalf("%d bytes: %t", n, got)
		}
	}
	for _, n := range []int{65535, 65536, 65537, 65551, 65552, 65553, 65568, 1 << 17, 1 << 20, 1<<20 + 1, 1 << 21} {
		p := api.Packet{Kind: api.PktData, Session: 1, Epoch: 1, Count: 1, Body: some(n)}
		if got := reads(t, written(p)); got != (n <= 65552) {
			t.Fatalf("%d bytes: %t", n, got)
		}
	}
}

func TestReadOfWrongBytes(t *testing.T) {
	with := func(p api.Packet, f func(*api.Packet)) []byte {
		f(&p)
		return written(p)
	}
	hello, answer, data, who := packets()[1], packets()[4], packets()[7], packets()[9]
	for _, b := range [][]byte{
		nil,
		{0},
		{1},
		{1, 0},
		{0, 1, 5},
		{1, 5, 1, 5},
		{1, 4},
		{1, 4, 0},
		{1, 4, 1},
		{1, 4, 1, 0},
		{1, 4, 2, 0, 5},
		{1, 4, 1, 5, 0},
		{1, 4, 9, 1, 1, 1, 1, 1, 1, 1, 1, 1},
		{2, 0, 4, 1, 5},
		{9, 4, 1, 5},
		{4, 1, 5},
		{1, 1},
		{1, 2},
		{1, 3},
		{1, 3, 1, 1, 1, 1, 1, 1},
		{1, 3, 1, 1, 1, 1, 1, 1, 0},
		{1, 3, 1, 1, 1, 1, 1, 1, 1, 16},
		with(hello, func(p *api.Packet) { p.Peer = 0 }),
		with(hello, func(p *api.Packet) { p.Peer = 65537 }),
		with(hello, func(p *api.Packet) { p.Peer = 1 << 32 }),
		with(hello, func(p *api.Packet) { p.Peer = 1<<32 + 1 }),
		with(hello, func(p *api.Packet) { p.Peer = -1 }),
		with(answer, func(p *api.Packet) { p.Session = 0 }),
		with(answer, func(p *api.Packet) { p.Epoch = 0 }),
		with(data, func(p *api.Packet) { p.Session = 0 }),
		with(data, func(p *api.Packet) { p.Epoch = 0 }),
		with(data, func(p *api.Packet) { p.Count = 0 }),
		with(data, func(p *api.Packet) { p.Count = 1<<60 + 1 }),
		with(data, func(p *api.Packet) { p.Count = math.MaxUint64 }),
		with(data, func(p *api.Packet) { p.Body = some(15) }),
		with(data, func(p *api.Packet) { p.Body = some(65553) }),
		with(who, func(p *api.Packet) { p.Session = 0 }),
		bytes.Join([][]byte{written(who), written(who)}, nil),
		append(written(data), make([]byte, 1<<16)...),
		bytes.Repeat([]byte{1}, 1000),
		bytes.Repeat([]byte{255}, 1000),
		make([]byte, 1000),
	} {
		refused(t, b)
	}
}

// Numbers that are what is asked for only in their lower bits are none of that.
func TestReadOfGreatNumbers(t *testing.T) {
	for _, p := range packets() {
		for i, field := range has(p.Kind) {
			if !isNumber(field) {
				continue
			}
			for _, shift := range []int{8, 16, 17, 20, 31, 32, 33, 48, 61, 62, 63} {
				all := parts(p)
				x := new(big.Int).SetBytes(all[i][1:]).Uint64()
				all[i] = number(x | 1<<shift)
				got := reads(t, bytes.Join(all, nil))
				great := field == "Kind" || field == "Peer" && shift > 16 || field == "Epoch" && shift > 31 || field == "Count" && shift > 60
				if got && great {
					t.Fatalf("%s %x of %v", field, x|1<<shift, p)
				}
			}
		}
	}
}

// The lengths of a block that are not what follows are refused.
func TestReadOfWrongLengths(t *testing.T) {
	p := packets()[7]
	all := parts(p)
	head := bytes.Join(all[:4], nil)
	for _, n := range []uint64{0, 1, 16, 32, 34, 255, 256, 65552, 1 << 16, 1 << 20, 1<<20 + 1, 1 << 31, 1<<32 + 33, 1 << 63, math.MaxUint64} {
		refused(t, slices.Concat(head, number(n), p.Body))
	}
	if !reads(t, slices.Concat(head, number(33), p.Body)) {
		t.Error("33")
	}
}

// P9.3: no other bytes are those of a packet

// Numbers with bytes too many, and fields that are missing, or come twice, or in place of others.
func TestReadOfChangedFields(t *testing.T) {
	for _, p := range packets() {
		n := len(parts(p))
		for i, field := range has(p.Kind) {
			if isNumber(field) {
				all := parts(p)
				all[i] = append([]byte{all[i][0] + 1, 0}, all[i][1:]...)
				refused(t, bytes.Join(all, nil))
			}
			reads(t, bytes.Join(slices.Delete(parts(p), i, i+1), nil))
			reads(t, bytes.Join(slices.Insert(parts(p), i, parts(p)[i]), nil))
			for j := range n {
				all := parts(p)
				all[i], all[j] = all[j], all[i]
				reads(t, bytes.Join(all, nil))
			}
		}
		for kind := range 7 {
			all := parts(p)
			all[0] = number(uint64(kind))
			reads(t, bytes.Join(all, nil))
		}
		// No field is written that the kind does not have.
		for _, field := range []string{"Peer", "Session", "Epoch", "Count", "Random", "Mark", "Body"} {
			if !slices.Contains(has(p.Kind), field) {
				for i := 1; i <= n; i++ {
					reads(t, bytes.Join(slices.Insert(parts(p), i, part(p, field)), nil))
				}
				refused(t, append(written(p), part(p, field)...))
			}
		}
	}
}

// Each piece of the bytes, each byte behind them and each other byte in them is refused, or is another one's bytes.
func TestReadOfChangedBytes(t *testing.T) {
	for _, p := range packets() {
		b := written(p)
		for n := range b {
			refused(t, b[:n])
		}
		for x := range 256 {
			refused(t, append(written(p), byte(x)))
			for i := range b {
				other := bytes.Clone(b)
				other[i] = byte(x)
				reads(t, other)
			}
		}
	}
}

func TestReadOfBytesCutAndMoved(t *testing.T) {
	r := rand.New(rand.NewSource(91))
	for _, p := range packets() {
		b := written(p)
		for range 1000 {
			i, j := r.Intn(len(b)+1), r.Intn(len(b)+1)
			reads(t, slices.Concat(b[:min(i, j)], b[max(i, j):]))
			reads(t, slices.Concat(b[:i], b[j:]))
			reads(t, slices.Insert(bytes.Clone(b), i, byte(r.Intn(9))))
		}
	}
}

func TestReadOfAnyBytes(t *testing.T) {
	r := rand.New(rand.NewSource(92))
	good := 0
	for range 200000 {
		// Short numbers come often in it.
		b := []byte{1, byte(1 + r.Intn(4))}
		for range r.Intn(5) {
			b = append(b, 1, byte(r.Intn(20)))
		}
		if n := r.Intn(50); r.Intn(2) == 0 {
			b = append(b, some(n)...)
		}
		if reads(t, b) {
			good++
		}
	}
	if good < 1000 {
		t.Error(good)
	}
}

// Different packets have different bytes.
func TestNoBytesOfTwoPackets(t *testing.T) {
	seen := map[string]api.Packet{}
	for _, p := range packets() {
		for _, q := range changed(p) {
			b, e := packet.Bytes(q)
			if e != api.OK {
				continue
			}
			if other, there := seen[string(b)]; there && !equal(other, q) {
				t.Fatalf("%v and %v: %x", other, q, b)
			}
			seen[string(b)] = q
		}
	}
	if len(seen) < 200 {
		t.Error(len(seen))
	}
}

// Rules 3, 4 and 6

func TestBytesAreNewMemory(t *testing.T) {
	for _, p := range packets() {
		q, all := roomy(p)
		was := bytes.Clone(all)
		b, _ := packet.Bytes(q)
		again, _ := packet.Bytes(q)
		isNew(t, b)
		ruin(b)
		if !bytes.Equal(again, written(p)) || !bytes.Equal(all, was) {
			t.Errorf("%x", again)
		}
		ruin(all)
		if !bytes.Equal(again, written(p)) {
			t.Errorf("%x", again)
		}
	}
}

func TestReadIsNewMemory(t *testing.T) {
	for _, p := range packets() {
		all := append(written(p), 1, 2, 3)
		b := all[:len(all)-3]
		was := bytes.Clone(all)
		q, e := packet.Read(b)
		if e != api.OK || !bytes.Equal(all, was) {
			t.Fatalf("%x %d", all, e)
		}
		other, _ := packet.Read(b)
		ruin(all)
		ruin(other.Body)
		if !equal(p, q) {
			t.Errorf("%v and not %v", q, p)
		}
		// Ways: no spare capacity, so that no two copies of a packet can share it.
		if cap(q.Body) != len(q.Body) {
			t.Errorf("%d of %d bytes", len(q.Body), cap(q.Body))
		}
	}
}

func TestReadOfNilAndEmpty(t *testing.T) {
	for _, b := range [][]byte{nil, {}, []byte{1, 4, 1, 5}[:0], make([]byte, 0, 9)} {
		refused(t, b)
	}
	// What is behind the bytes is not read.
	refused(t, []byte{1, 4, 1, 5}[:3])
}
