package wire_test

import (
	"bytes"
	"math"
	"math/big"
	"math/rand"
	"slices"
	"testing"

	"drawbridge/api"
	"drawbridge/wire"
)

// number is the bytes of a number (layer 1), by its sentence.
func number(x uint64) []byte {
	p := new(big.Int).SetUint64(x).Bytes()
	return append([]byte{byte(len(p))}, p...)
}

// block is the bytes of a block (layer 1), by its sentence.
func block(b []byte) []byte {
	return append(number(uint64(len(b))), b...)
}

// order are the fields of each message, in the order of their bytes.
func order() []string {
	return []string{"Kind", "Epoch", "Index", "Prev", "Upto", "Ref", "Node", "Is", "Entries", "Body"}
}

// parts are the bytes of the fields of m, one by one.
func parts(m api.Msg) [][]byte {
	is := []byte{0}
	if m.Is {
		is = []byte{1, 1}
	}
	list := number(uint64(len(m.Entries)))
	for _, e := range m.Entries {
		list = append(list, block(writtenEntry(e))...)
	}
	return [][]byte{number(uint64(m.Kind)), number(uint64(m.Epoch)), number(m.Index), number(uint64(m.Prev)), number(m.Upto), number(m.Ref),
		number(uint64(m.Node)), is, list, block(m.Body)}
}

// written is the chapter's sentence about the bytes of a message, valid or not.
func written(m api.Msg) []byte {
	return bytes.Join(parts(m), nil)
}

// reads checks that b is refused, or read as the valid message of which it is the bytes.
func reads(t *testing.T, b []byte) bool {
	t.Helper()
	m, e := wire.Read(b)
	if e == api.OK && (wrong(m) != api.OK || !bytes.Equal(written(m), b)) || e != api.OK && (e != api.ErrBad || !nothing(m)) {
		t.Fatalf("%x: %v %d", b, m, e)
	}
	return e == api.OK
}

// refused checks that b is the bytes of nothing.
func refused(t *testing.T, b []byte) {
	t.Helper()
	if reads(t, b) {
		t.Fatalf("%x is a message", b)
	}
}

// ruin changes all of the memory of b.
func ruin(b []byte) {
	for i := range b[:cap(b)] {
		b[:cap(b)][i] = 0x77
	}
}

// ruinEntries changes all of the memory of a list.
func ruinEntries(list []api.Entry) {
	for i := range list[:cap(list)] {
		list[:cap(list)][i] = api.Entry{Kind: 77, Epoch: 77, Index: 77}
	}
}

// isNew checks that nothing is in the spare capacity of b.
func isNew(t *testing.T, b []byte) {
	t.Helper()
	if rest := b[len(b):cap(b)]; bytes.ContainsFunc(rest, func(x rune) bool { return x != 0 }) {
		t.Fatalf("spare: %x", rest)
	}
}

// P11.2: Bytes and Read

func TestBytes(t *testing.T) {
	secret := bytes32(5)
	join := func(p ...[]byte) []byte { return bytes.Join(p, nil) }
	shut := api.Entry{Kind: 3, Epoch: 2, Index: 10, Session: api.Session{ID: 7}}
	open := api.Entry{Kind: 2, Epoch: 3, Index: 11, Session: api.Session{ID: 300, Peer: 9, Secret: secret}}
	block := api.Entry{Kind: 1, Epoch: 3, Index: 12, Op: api.Op{Kind: 5, Ref: 4}}
	for _, x := range []struct {
		m api.Msg
		b []byte
	}{
		{api.Msg{Kind: 1}, []byte{1, 1, 0, 0, 0, 0, 0, 0, 0, 0, 0}},
		{api.Msg{Kind: 1, Epoch: 2, Index: 3, Upto: 4}, []byte{1, 1, 1, 2, 1, 3, 0, 1, 4, 0, 0, 0, 0, 0}},
		{api.Msg{Kind: 1, Epoch: 65536, Index: 1 << 32, Upto: 255}, []byte{1, 1, 3, 1, 0, 0, 5, 1, 0, 0, 0, 0, 0, 1, 255, 0, 0, 0, 0, 0}},
		{api.Msg{Kind: 2, Epoch: 2, Index: 9, Prev: 1, Upto: 8}, []byte{1, 2, 1, 2, 1, 9, 1, 1, 1, 8, 0, 0, 0, 0, 0}},
		{api.Msg{Kind: 2, Epoch: 3, Index: 9, Prev: 1, Upto: 8, Entries: []api.Entry{shut}},
			[]byte{1, 2, 1, 3, 1, 9, 1, 1, 1, 8, 0, 0, 0, 1, 1, 1, 8, 1, 3, 1, 2, 1, 10, 1, 7, 0}},
		{api.Msg{Kind: 2, Epoch: 3, Index: 9, Entries: []api.Entry{shut, open, block}},
			join([]byte{1, 2, 1, 3, 1, 9, 0, 0, 0, 0, 0, 1, 3},
				[]byte{1, 8, 1, 3, 1, 2, 1, 10, 1, 7},
				[]byte{1, 43, 1, 2, 1, 3, 1, 11, 2, 1, 44, 1, 9}, secret[:],
				[]byte{1, 47, 1, 1, 1, 3, 1, 12, 1, 39, 1, 5, 1, 4, 0}, make([]byte, 34), []byte{0})},
		{api.Msg{Kind: 3, Epoch: 1, Index: 2, Is: true}, []byte{1, 3, 1, 1, 1, 2, 0, 0, 0, 0, 1, 1, 0, 0}},
		{api.Msg{Kind: 3, Epoch: 1, Index: 2}, []byte{1, 3, 1, 1, 1, 2, 0, 0, 0, 0, 0, 0, 0}},
		{api.Msg{Kind: 4, Ref: 7}, []byte{1, 4, 0, 0, 0, 0, 1, 7, 0, 0, 0, 0}},
		{api.Msg{Kind: 4, Ref: math.MaxUint64}, []byte{1, 4, 0, 0, 0, 0, 8, 255, 255, 255, 255, 255, 255, 255, 255, 0, 0, 0, 0}},
		{api.Msg{Kind: 5, Ref: 7, Epoch: 6, Node: 2}, []byte{1, 5, 1, 6, 0, 0, 0, 1, 7, 1, 2, 0, 0, 0}},
		{api.Msg{Kind: 6, Ref: 7, Epoch: math.MaxUint32, Node: 1}, []byte{1, 6, 4, 255, 255, 255, 255, 0, 0, 0, 1, 7, 1, 1, 0, 0, 0}},
		{api.Msg{Kind: 6, Ref: 300}, []byte{1, 6, 0, 0, 0, 0, 2, 1, 44, 0, 0, 0, 0}},
		{api.Msg{Kind: 7, Epoch: 4, Index: 5, Prev: 3, Body: []byte{9, 8, 7}}, []byte{1, 7, 1, 4, 1, 5, 1, 3, 0, 0, 0, 0, 0, 1, 3, 9, 8, 7}},
		{api.Msg{Kind: 7, Prev: math.MaxUint32, Body: some(300)},
			join([]byte{1, 7, 0, 0, 4, 255, 255, 255, 255, 0, 0, 0, 0, 0, 2, 1, 44}, some(300))},
	} {
		if b, e := wire.Bytes(x.m); !bytes.Equal(b, x.b) || e != api.OK {
			t.Errorf("%v: %x %d and not %x", x.m, b, e, x.b)
		}
		if m, e := wire.Read(x.b); !equal(m, x.m) || e != api.OK {
			t.Errorf("%x: %v %d and not %v", x.b, m, e, x.m)
		}
	}
}

// checkBytes checks Bytes and Read of m, valid or not.
func checkBytes(t *testing.T, m api.Msg) {
	t.Helper()
	b, e := wire.Bytes(m)
	if e != wrong(m) {
		t.Fatalf("%v: %d and not %d", m, e, wrong(m))
	}
	if e != api.OK {
		if len(b) != 0 || cap(b) != 0 {
			t.Fatalf("%v: %x", m, b)
		}
		reads(t, written(m))
		return
	}
	if !bytes.Equal(b, written(m)) {
		t.Fatalf("%v: %x", m, b)
	}
	if n, e := wire.Read(b); !equal(m, n) || !wire.Same(m, n) || e != api.OK {
		t.Fatalf("%v: %v %d", m, n, e)
	}
}

func TestBytesAndReadOfAllEdges(t *testing.T) {
	for i, m := range edges() {
		// There is no need of all that are wrong.
		if wrong(m) == api.OK || i%7 == 0 {
			checkBytes(t, m)
		}
	}
	for _, m := range msgs() {
		for _, n := range changed(m) {
			checkBytes(t, n)
		}
	}
}

func TestBytesAndReadOfRandomLogs(t *testing.T) {
	random := rand.New(rand.NewSource(12))
	known := map[api.Errno]int{}
	for range 3000 {
		m := api.Msg{Kind: api.MsgAppend, Index: random.Uint64() >> (2 + random.Intn(62)), Prev: uint32(random.Intn(4)), Upto: random.Uint64() >> random.Intn(64)}
		epoch := max(m.Prev, 1)
		for i := range random.Intn(34) {
			e := entries()[random.Intn(len(entries()))]
			epoch += uint32(random.Intn(6) / 5)
			e.Index, e.Epoch = m.Index+1+uint64(i), epoch
			m.Entries = append(m.Entries, e)
		}
		m.Epoch = epoch + uint32(random.Intn(3))
		if len(m.Entries) > 0 && random.Intn(3) == 0 {
			i := random.Intn(len(m.Entries))
			m.Entries[i] = []api.Entry{m.Entries[0], at(m.Index+1+uint64(i), epoch+1), at(m.Index+2+uint64(i), epoch), {}}[random.Intn(4)]
		}
		known[wrong(m)]++
		if wire.Check(m) != wrong(m) {
			t.Fatalf("%v: %d", m, wire.Check(m))
		}
		checkBytes(t, m)
	}
	if known[api.OK] < 1000 || known[api.ErrArg] < 300 || known[api.ErrLong] < 30 {
		t.Error(known)
	}
}

// Bodies of each length have their own bytes.
func TestBytesAndReadOfEachLength(t *testing.T) {
	sizes := []int{65535, 65536, 65537, 1<<20 - 1, 1 << 20, 1<<20 + 1, 1<<20 + 2, 1 << 21}
	for n := range 600 {
		sizes = append(sizes, n)
	}
	for _, n := range sizes {
		m := api.Msg{Kind: api.MsgBase, Epoch: 1, Index: 1, Prev: 1, Body: some(n)}
		checkBytes(t, m)
		if got := reads(t, written(m)); got != (n <= 1<<20) {
			t.Fatalf("%d bytes: %t", n, got)
		}
	}
}

func TestBytesAndReadOfEachNumberOfEntries(t *testing.T) {
	for n := range 70 {
		m := api.Msg{Kind: api.MsgAppend, Epoch: 99, Index: 7, Prev: 1, Entries: log(n, 7, 1)}
		checkBytes(t, m)
		if got := reads(t, written(m)); got != (n <= 32) {
			t.Fatalf("%d entries: %t", n, got)
		}
	}
}

func TestReadOfWrongBytes(t *testing.T) {
	shut := writtenEntry(at(3, 1))
	with := func(n uint64, list ...[]byte) []byte {
		return slices.Concat([]byte{1, 2, 1, 1, 1, 2, 0, 0, 0, 0, 0}, number(n), bytes.Join(list, nil), []byte{0})
	}
	if !reads(t, with(1, block(shut))) || !reads(t, with(0)) {
		t.Error("with")
	}
	for _, b := range [][]byte{
		nil,
		{0},
		{1},
		{1, 4},
		make([]byte, 10),
		make([]byte, 1000),
		bytes.Repeat([]byte{1}, 1000),
		bytes.Repeat([]byte{255}, 1000),
		{1, 4, 0, 0, 0, 0, 1, 7, 0, 0, 0},
		{1, 4, 0, 0, 0, 0, 1, 7, 0, 0, 0, 0, 0},
		{1, 8, 0, 0, 0, 0, 1, 7, 0, 0, 0, 0},
		{0, 0, 0, 0, 0, 1, 7, 0, 0, 0, 0},
		{1, 3, 1, 1, 1, 2, 0, 0, 0, 0, 1, 0, 0, 0},
		{1, 3, 1, 1, 1, 2, 0, 0, 0, 0, 1, 2, 0, 0},
		{1, 3, 1, 1, 1, 2, 0, 0, 0, 0, 2, 0, 1, 0, 0},
		{1, 3, 1, 1, 1, 2, 0, 0, 0, 0, 2, 1, 1, 0, 0},
		{1, 3, 1, 1, 1, 2, 0, 0, 0, 0, 1, 255, 0, 0},
		{1, 3, 1, 1, 1, 2, 0, 0, 0, 0, 9, 0, 0},
		{1, 7, 1, 4, 1, 5, 1, 3, 0, 0, 0, 0, 0, 1, 3, 9, 8},
		{1, 7, 1, 4, 1, 5, 1, 3, 0, 0, 0, 0, 0, 1, 3, 9, 8, 7, 6},
		{1, 7, 1, 4, 1, 5, 1, 3, 0, 0, 0, 0, 0, 2, 0, 3, 9, 8, 7},
		{1, 7, 1, 4, 1, 5, 1, 3, 0, 0, 0, 0, 0, 1, 0},
		{1, 7, 1, 4, 1, 5, 1, 3, 0, 0, 0, 0, 0, 8, 255, 255, 255, 255, 255, 255, 255, 255},
		{1, 7, 1, 4, 1, 5, 1, 3, 0, 0, 0, 0, 0, 5, 1, 0, 0, 0, 1, 9},
		with(1),
		with(0, block(shut)),
		with(2, block(shut)),
		with(32, block(shut)),
		with(33, block(shut)),
		with(256, block(shut)),
		with(257, block(shut)),
		with(1<<32+1, block(shut)),
		with(math.MaxUint64, block(shut)),
		with(1, block(shut), block(shut)),
		with(2, block(shut), block(shut)),
		with(2, block(writtenEntry(at(4, 1))), block(shut)),
		with(2, block(shut), block(nil)),
		with(2, block(nil), block(shut)),
		with(1, block(nil)),
		with(1, block(shut[1:])),
		with(1, block(shut[:len(shut)-1])),
		with(1, block(slices.Concat(shut, []byte{0}))),
		with(1, shut),
		with(1, block(writtenEntry(at(3, 2)))),
		with(1, block(writtenEntry(at(3, 0)))),
		with(1, block(writtenEntry(at(2, 1)))),
		with(1, block(writtenEntry(at(4, 1)))),
		with(1, number(9), shut),
		with(1, number(7), shut),
		with(1, number(1<<20+1), shut),
		with(1, number(1<<32+8), shut),
		with(1, number(1<<63), shut),
		with(1, block(make([]byte, 1<<20))),
		with(1, block(make([]byte, 1<<20+1))),
		slices.Concat(written(msgs()[6]), written(msgs()[6])),
		slices.Concat(written(msgs()[6]), make([]byte, 1<<16)),
	} {
		refused(t, b)
	}
	for _, m := range edges() {
		// All fields are written, whatever the Kind is: what is wrong is so in bytes too.
		if wrong(m) != api.OK {
			refused(t, written(m))
		}
	}
}

// Numbers that are what is asked for only in their lower bits are none of that.
func TestReadOfGreatNumbers(t *testing.T) {
	for _, m := range msgs() {
		for i, name := range order()[:9] {
			for _, shift := range []int{6, 8, 16, 20, 31, 32, 33, 48, 61, 62, 63} {
				all := parts(m)
				size := 1 + int(all[i][0])
				x := new(big.Int).SetBytes(all[i][1:size]).Uint64()
				all[i] = append(number(x|1<<shift), all[i][size:]...)
				got := reads(t, bytes.Join(all, nil))
				great := slices.Contains([]string{"Kind", "Node", "Is", "Entries"}, name) || shift > 31 && (name == "Epoch" || name == "Prev")
				if got && great {
					t.Fatalf("%s %x of %v", name, x|1<<shift, m)
				}
			}
		}
	}
}

// P11.3: no other bytes are those of a message

// Numbers with bytes too many, and fields that are missing, or come twice, or in place of others.
func TestReadOfChangedFields(t *testing.T) {
	for _, m := range msgs() {
		for i := range order() {
			all := parts(m)
			all[i] = append([]byte{all[i][0] + 1, 0}, all[i][1:]...)
			refused(t, bytes.Join(all, nil))
			reads(t, bytes.Join(slices.Delete(parts(m), i, i+1), nil))
			reads(t, bytes.Join(slices.Insert(parts(m), i, parts(m)[i]), nil))
			for j := range order() {
				all := parts(m)
				all[i], all[j] = all[j], all[i]
				reads(t, bytes.Join(all, nil))
			}
			for x := range 10 {
				all := parts(m)
				all[i] = number(uint64(x))
				reads(t, bytes.Join(all, nil))
			}
			for _, n := range msgs() {
				all := parts(m)
				all[i] = parts(n)[i]
				reads(t, bytes.Join(all, nil))
			}
		}
	}
}

func TestReadOfChangedBytes(t *testing.T) {
	random := rand.New(rand.NewSource(13))
	for _, m := range msgs() {
		b := written(m)
		tries := 40
		if len(b) > 1000 {
			tries = 2
		}
		for i := range b {
			refused(t, b[:i])
			for range tries {
				p := bytes.Clone(b)
				p[i] = byte(random.Intn(256))
				reads(t, p)
			}
			for x := range 8 {
				p := bytes.Clone(b)
				p[i] ^= 1 << x
				reads(t, p)
			}
			reads(t, slices.Delete(bytes.Clone(b), i, i+1))
			reads(t, slices.Insert(bytes.Clone(b), i, byte(random.Intn(4))))
		}
		for n := range 20 {
			refused(t, slices.Concat(b, make([]byte, n+1)))
		}
		for range 300 {
			p := bytes.Clone(b)
			p[random.Intn(len(p))], p[random.Intn(len(p))] = byte(random.Intn(10)), byte(random.Intn(256))
			reads(t, p)
		}
	}
}

// No two messages have the same bytes.
func TestBytesAreUnique(t *testing.T) {
	from := map[string]api.Msg{}
	for _, m := range msgs() {
		for _, n := range append(changed(m), m) {
			b, e := wire.Bytes(n)
			if e != api.OK {
				continue
			}
			if other, there := from[string(b)]; there && !equal(n, other) {
				t.Fatalf("%v and %v: %x", n, other, b)
			}
			from[string(b)] = n
		}
	}
	if len(from) < 500 {
		t.Error(len(from))
	}
}

// Rules 3 and 4

// roomy is m with spare capacity in all that it has, and all memory of that.
func roomy(m api.Msg) (api.Msg, []api.Entry, []byte) {
	list := append(slices.Clone(m.Entries), make([]api.Entry, 40)...)
	for i := len(m.Entries); i < len(list); i++ {
		list[i] = at(999, 999)
	}
	all := append(bytes.Clone(m.Body), bytes.Repeat([]byte{0xee}, 200)...)
	m.Entries, m.Body = list[:len(m.Entries)], all[:len(m.Body)]
	return m, list, all
}

func TestNoMessageIsChanged(t *testing.T) {
	for _, m := range msgs() {
		for _, n := range changed(m) {
			r, list, all := roomy(n)
			entries, body := slices.Clone(list), bytes.Clone(all)
			b, _ := wire.Bytes(r)
			wire.Check(r)
			wire.Same(r, m)
			wire.Same(m, r)
			ruin(b)
			if !equal(r, n) || !slices.Equal(list, entries) || !bytes.Equal(all, body) {
				t.Fatalf("%v: %v %x", n, list, all)
			}
		}
	}
}

func TestBytesAreNewMemory(t *testing.T) {
	for _, m := range msgs() {
		r, list, all := roomy(m)
		one, _ := wire.Bytes(r)
		two, _ := wire.Bytes(r)
		isNew(t, one)
		ruin(two)
		ruinEntries(list)
		ruin(all)
		if !bytes.Equal(one, written(m)) {
			t.Fatalf("%v: %x", m, one)
		}
	}
}

func TestReadIsNewMemory(t *testing.T) {
	for _, m := range msgs() {
		all := append(written(m), bytes.Repeat([]byte{0xee}, 200)...)
		b := all[:len(all)-200]
		was := bytes.Clone(all)
		one, e := wire.Read(b)
		two, _ := wire.Read(b)
		if e != api.OK || !bytes.Equal(all, was) {
			t.Fatalf("%v: %d %x", m, e, all)
		}
		isNew(t, one.Body)
		for _, e := range one.Entries[len(one.Entries):cap(one.Entries)] {
			if e != (api.Entry{}) {
				t.Fatalf("spare: %v", e)
			}
		}
		ruin(all)
		ruin(two.Body)
		ruinEntries(two.Entries)
		if !equal(one, m) {
			t.Fatalf("%v and not %v", one, m)
		}
	}
}

func TestNilAndEmptyAreTheSame(t *testing.T) {
	for _, m := range msgs() {
		want := written(m)
		for _, body := range [][]byte{nil, {}, make([]byte, 0, 9), some(70)[:0]} {
			for _, list := range [][]api.Entry{nil, {}, make([]api.Entry, 0, 9), log(3, 0, 1)[:0]} {
				n := m
				if len(m.Body) == 0 {
					n.Body = body
				}
				if len(m.Entries) == 0 {
					n.Entries = list
				}
				b, e := wire.Bytes(n)
				if wire.Check(n) != api.OK || !wire.Same(m, n) || !wire.Same(n, m) || !bytes.Equal(b, want) || e != api.OK {
					t.Fatalf("%v: %x %d", n, b, e)
				}
			}
		}
	}
}

func TestReadOfNilAndEmpty(t *testing.T) {
	ask := []byte{1, 4, 0, 0, 0, 0, 1, 7, 0, 0, 0, 0}
	for _, b := range [][]byte{nil, {}, ask[:0], make([]byte, 0, 9)} {
		refused(t, b)
	}
	// What is behind the bytes is not read.
	refused(t, ask[:len(ask)-1])
}
