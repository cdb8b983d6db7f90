package wire_test

import (
	"bytes"
	"math"
	"math/rand"
	"slices"
	"testing"

	"drawbridge/api"
	"drawbridge/config"
	"drawbridge/wire"
)

// bytes32 are 32 bytes that all differ, from x on.
func bytes32(x byte) (a [32]byte) {
	for i := range a {
		a[i] = x + byte(i)*7
	}
	return a
}

// ops are valid operations that differ in much.
func ops() []api.Op {
	return []api.Op{
		{Kind: api.OpPeer, ID: 1},
		{Kind: api.OpPeer, Ref: math.MaxUint64, ID: 65536, Key: bytes32(3)},
		{Kind: api.OpOff, Ref: 255, ID: 255},
		{Kind: api.OpDrop, Ref: 256, ID: 300},
		{Kind: api.OpRoute, Ref: 1 << 63, ID: 2, Addr: 10<<24 | 1<<16, Bits: 16},
		{Kind: api.OpBlock},
		{Kind: api.OpBlock, Ref: 7, Addr: math.MaxUint32, Bits: 32},
	}
}

// sessions are what an EntOpen may have.
func sessions() []api.Session {
	return []api.Session{
		{ID: 1, Peer: 1},
		{ID: 300, Peer: 65536, Secret: bytes32(9)},
		{ID: math.MaxUint64, Peer: 255, Secret: [32]byte{31: 1}},
		{ID: 1 << 63, Peer: 256, Secret: [32]byte{0: 1}},
	}
}

// entries are valid ones that differ in much.
func entries() []api.Entry {
	var all []api.Entry
	for i, o := range ops() {
		all = append(all, api.Entry{Kind: api.EntOp, Epoch: 1 << (5 * i), Index: 1 << (10 * i), Op: o})
	}
	for i, s := range sessions() {
		all = append(all, api.Entry{Kind: api.EntOpen, Epoch: math.MaxUint32 >> (10 * i), Index: math.MaxUint64 >> (20 * i), Session: s})
	}
	for i, id := range []uint64{1, 300, math.MaxUint64} {
		all = append(all, api.Entry{Kind: api.EntShut, Epoch: uint32(i) + 1, Index: uint64(i) + 255, Session: api.Session{ID: id}})
	}
	return all
}

// entryEdges are entries, valid or not, of all that the fields may be where something changes.
func entryEdges() []api.Entry {
	var all []api.Entry
	for kind := -1; kind <= 5; kind++ {
		for _, epoch := range []uint32{0, 1, math.MaxUint32} {
			for _, index := range []uint64{0, 1, 1 << 62, math.MaxUint64} {
				for _, id := range []uint64{0, 1, math.MaxUint64} {
					for _, peer := range []int{-1, 0, 1, 65536, 65537} {
						for _, secret := range [][32]byte{{}, {31: 1}} {
							for _, o := range append(ops(), api.Op{}, api.Op{Ref: 1}, api.Op{Bits: 33}, api.Op{Kind: 1, ID: 65537}, api.Op{Kind: 6}) {
								all = append(all, api.Entry{Kind: kind, Epoch: epoch, Index: index, Op: o, Session: api.Session{ID: id, Peer: peer, Secret: secret}})
							}
						}
					}
				}
			}
		}
	}
	return all
}

// changedEntry are entries, valid or not, each of which differs from e in one field at most.
func changedEntry(e api.Entry) []api.Entry {
	var all []api.Entry
	change := func(f func(*api.Entry)) {
		d := e
		f(&d)
		all = append(all, d)
	}
	for _, x := range integers() {
		change(func(d *api.Entry) { d.Kind = x })
		change(func(d *api.Entry) { d.Session.Peer = x })
		change(func(d *api.Entry) { d.Op.Kind = x })
		change(func(d *api.Entry) { d.Op.ID = x })
		change(func(d *api.Entry) { d.Op.Bits = x })
	}
	for _, x := range numbers() {
		change(func(d *api.Entry) { d.Index = x })
		change(func(d *api.Entry) { d.Epoch = uint32(x) })
		change(func(d *api.Entry) { d.Session.ID = x })
		change(func(d *api.Entry) { d.Op.Ref = x })
		change(func(d *api.Entry) { d.Op.Addr = uint32(x) })
	}
	for i := range 32 {
		change(func(d *api.Entry) { d.Op.Key[i] ^= 0x80 })
		change(func(d *api.Entry) { d.Session.Secret[i] ^= 1 })
	}
	for _, o := range append(ops(), api.Op{}) {
		change(func(d *api.Entry) { d.Op = o })
	}
	for _, s := range append(sessions(), api.Session{}) {
		change(func(d *api.Entry) { d.Session = s })
	}
	return all
}

// entryPart is the chapter's sentence about the bytes of one field.
func entryPart(e api.Entry, name string) []byte {
	switch name {
	case "Kind":
		return number(uint64(e.Kind))
	case "Epoch":
		return number(uint64(e.Epoch))
	case "Index":
		return number(e.Index)
	case "Op":
		return block(opBytes(e.Op))
	case "ID":
		return number(e.Session.ID)
	case "Peer":
		return number(uint64(e.Session.Peer))
	}
	return bytes.Clone(e.Session.Secret[:])
}

// opBytes is layer 8's sentence about the bytes of an operation, valid or not.
func opBytes(o api.Op) []byte {
	return slices.Concat(number(uint64(o.Kind)), number(o.Ref), number(uint64(o.ID)), o.Key[:], number(uint64(o.Addr)), number(uint64(o.Bits)))
}

// entryParts are the bytes of the fields of the kind of e, one by one.
func entryParts(e api.Entry) [][]byte {
	var all [][]byte
	for _, name := range hasEntry(e.Kind) {
		all = append(all, entryPart(e, name))
	}
	return all
}

// writtenEntry is the chapter's sentence about the bytes of an entry, valid or not.
func writtenEntry(e api.Entry) []byte {
	return bytes.Join(entryParts(e), nil)
}

// readsEntry checks that b is refused, or read as the valid entry of which it is the bytes.
func readsEntry(t *testing.T, b []byte) bool {
	t.Helper()
	d, e := wire.ReadEntry(b)
	if e == api.OK && (!validEntry(d) || !bytes.Equal(writtenEntry(d), b)) || e != api.OK && (e != api.ErrBad || d != api.Entry{}) {
		t.Fatalf("%x: %v %d", b, d, e)
	}
	return e == api.OK
}

// refusedEntry checks that b is the bytes of nothing.
func refusedEntry(t *testing.T, b []byte) {
	t.Helper()
	if readsEntry(t, b) {
		t.Fatalf("%x is an entry", b)
	}
}

// P11.1: CheckEntry

func TestCheckEntry(t *testing.T) {
	for _, d := range entries() {
		if e := wire.CheckEntry(d); e != api.OK {
			t.Errorf("%v: %d", d, e)
		}
	}
	off := api.Op{Kind: api.OpOff, ID: 1}
	for _, d := range []api.Entry{
		{},
		{Epoch: 1, Index: 1},
		{Kind: 4, Epoch: 1, Index: 1},
		{Kind: 4, Epoch: 1, Index: 1, Session: api.Session{ID: 1}},
		{Kind: -1, Epoch: 1, Index: 1, Op: off},
		{Kind: api.EntOp, Index: 1, Op: off},
		{Kind: api.EntOp, Epoch: 1, Op: off},
		{Kind: api.EntOp, Epoch: 1, Index: 1},
		{Kind: api.EntOp, Epoch: 1, Index: 1, Op: api.Op{Kind: api.OpOff}},
		{Kind: api.EntOp, Epoch: 1, Index: 1, Op: api.Op{Kind: 6, ID: 1}},
		{Kind: api.EntOp, Epoch: 1, Index: 1, Op: api.Op{Kind: api.OpBlock, Addr: 1, Bits: 31}},
		{Kind: api.EntOp, Epoch: 1, Index: 1, Op: off, Session: api.Session{ID: 1}},
		{Kind: api.EntOp, Epoch: 1, Index: 1, Op: off, Session: api.Session{Peer: 1}},
		{Kind: api.EntOp, Epoch: 1, Index: 1, Op: off, Session: api.Session{Secret: [32]byte{31: 1}}},
		{Kind: api.EntOp, Epoch: 1, Index: 1, Op: off, Session: api.Session{ID: 1, Peer: 1}},
		{Kind: api.EntOpen, Index: 1, Session: api.Session{ID: 1, Peer: 1}},
		{Kind: api.EntOpen, Epoch: 1, Session: api.Session{ID: 1, Peer: 1}},
		{Kind: api.EntOpen, Epoch: 1, Index: 1, Session: api.Session{Peer: 1}},
		{Kind: api.EntOpen, Epoch: 1, Index: 1, Session: api.Session{ID: 1}},
		{Kind: api.EntOpen, Epoch: 1, Index: 1, Session: api.Session{ID: 1, Peer: -1}},
		{Kind: api.EntOpen, Epoch: 1, Index: 1, Session: api.Session{ID: 1, Peer: 65537}},
		{Kind: api.EntOpen, Epoch: 1, Index: 1, Session: api.Session{ID: 1, Peer: 1}, Op: off},
		{Kind: api.EntOpen, Epoch: 1, Index: 1, Session: api.Session{ID: 1, Peer: 1}, Op: api.Op{Ref: 1}},
		{Kind: api.EntOpen, Epoch: 1, Index: 1, Op: off},
		{Kind: api.EntShut, Index: 1, Session: api.Session{ID: 1}},
		{Kind: api.EntShut, Epoch: 1, Session: api.Session{ID: 1}},
		{Kind: api.EntShut, Epoch: 1, Index: 1},
		{Kind: api.EntShut, Epoch: 1, Index: 1, Session: api.Session{ID: 1, Peer: 1}},
		{Kind: api.EntShut, Epoch: 1, Index: 1, Session: api.Session{ID: 1, Secret: [32]byte{0: 1}}},
		{Kind: api.EntShut, Epoch: 1, Index: 1, Session: api.Session{ID: 1}, Op: off},
		{Kind: api.EntShut, Epoch: 1, Index: 1, Session: api.Session{ID: 1}, Op: api.Op{Ref: 1}},
	} {
		if e := wire.CheckEntry(d); e != api.ErrArg {
			t.Errorf("%v: %d", d, e)
		}
	}
}

// checkEntry checks CheckEntry, EntryBytes and ReadEntry of d, valid or not.
func checkEntry(t *testing.T, d api.Entry) {
	t.Helper()
	want := api.OK
	if !validEntry(d) {
		want = api.ErrArg
	}
	b, f := wire.EntryBytes(d)
	if e := wire.CheckEntry(d); e != want || f != want {
		t.Fatalf("%v: %d and %d and not %d", d, e, f, want)
	}
	if want != api.OK {
		if len(b) != 0 || cap(b) != 0 {
			t.Fatalf("%v: %x", d, b)
		}
		// Some of these are the bytes of another entry: fields that the kind does not have are not written.
		readsEntry(t, writtenEntry(d))
		return
	}
	if !bytes.Equal(b, writtenEntry(d)) {
		t.Fatalf("%v: %x", d, b)
	}
	if c, e := wire.ReadEntry(b); !equalEntry(c, d) || !wire.SameEntry(c, d) || e != api.OK {
		t.Fatalf("%v: %v %d", d, c, e)
	}
}

func TestEntriesOfAllEdges(t *testing.T) {
	known := map[bool]int{}
	check := func(d api.Entry) {
		known[validEntry(d)]++
		checkEntry(t, d)
	}
	for _, d := range entryEdges() {
		check(d)
	}
	for _, d := range entries() {
		for _, c := range changedEntry(d) {
			check(c)
		}
	}
	if known[true] < 500 || known[false] < 10000 {
		t.Error(known)
	}
}

// P11.1: SameEntry

// Entries that are not valid have the same fields.
func TestSameEntry(t *testing.T) {
	strange := api.Entry{Kind: -1, Epoch: 1, Index: 2, Op: api.Op{Kind: -3, Ref: 4, ID: -5, Key: bytes32(6), Addr: 7, Bits: -8}, Session: api.Session{ID: 9, Peer: -10, Secret: bytes32(11)}}
	every := append(entries(), api.Entry{}, strange)
	for i, d := range every {
		for j, c := range every {
			if got := wire.SameEntry(d, c); got != (i == j) {
				t.Errorf("%v and %v: %t", d, c, got)
			}
		}
		same := 0
		for _, c := range changedEntry(d) {
			if got, other := wire.SameEntry(d, c), wire.SameEntry(c, d); got != equalEntry(d, c) || other != got {
				t.Fatalf("%v and %v: %t %t", d, c, got, other)
			}
			if equalEntry(d, c) {
				same++
			}
		}
		if same == 0 {
			t.Errorf("%v: no change is none", d)
		}
	}
}

// P11.2: EntryBytes and ReadEntry

func TestEntryBytes(t *testing.T) {
	key, zero := bytes32(3), make([]byte, 32)
	join := func(p ...[]byte) []byte { return bytes.Join(p, nil) }
	for _, x := range []struct {
		d api.Entry
		b []byte
	}{
		{api.Entry{Kind: 1, Epoch: 1, Index: 3, Op: api.Op{Kind: 1, Ref: 1, ID: 2, Key: key}},
			join([]byte{1, 1, 1, 1, 1, 3, 1, 40, 1, 1, 1, 1, 1, 2}, key[:], []byte{0, 0})},
		{api.Entry{Kind: 1, Epoch: 256, Index: 1 << 16, Op: api.Op{Kind: 5}},
			join([]byte{1, 1, 2, 1, 0, 3, 1, 0, 0, 1, 38, 1, 5, 0, 0}, zero, []byte{0, 0})},
		{api.Entry{Kind: 1, Epoch: 1, Index: 1, Op: api.Op{Kind: 4, Ref: 1 << 56, ID: 300, Addr: 10 << 24, Bits: 8}},
			join([]byte{1, 1, 1, 1, 1, 1, 1, 53, 1, 4, 8, 1, 0, 0, 0, 0, 0, 0, 0, 2, 1, 44}, zero, []byte{4, 10, 0, 0, 0, 1, 8})},
		{api.Entry{Kind: 2, Epoch: 2, Index: 4, Session: api.Session{ID: 5, Peer: 2, Secret: key}},
			join([]byte{1, 2, 1, 2, 1, 4, 1, 5, 1, 2}, key[:])},
		{api.Entry{Kind: 2, Epoch: math.MaxUint32, Index: math.MaxUint64, Session: api.Session{ID: math.MaxUint64, Peer: 65536}},
			join([]byte{1, 2, 4, 255, 255, 255, 255, 8, 255, 255, 255, 255, 255, 255, 255, 255, 8, 255, 255, 255, 255, 255, 255, 255, 255, 3, 1, 0, 0}, zero)},
		{api.Entry{Kind: 3, Epoch: 6, Index: 7, Session: api.Session{ID: 8}}, []byte{1, 3, 1, 6, 1, 7, 1, 8}},
		{api.Entry{Kind: 3, Epoch: 1, Index: 300, Session: api.Session{ID: 1 << 32}}, []byte{1, 3, 1, 1, 2, 1, 44, 5, 1, 0, 0, 0, 0}},
	} {
		if b, e := wire.EntryBytes(x.d); !bytes.Equal(b, x.b) || e != api.OK {
			t.Errorf("%v: %x %d and not %x", x.d, b, e, x.b)
		}
		if d, e := wire.ReadEntry(x.b); !equalEntry(d, x.d) || e != api.OK {
			t.Errorf("%x: %v %d and not %v", x.b, d, e, x.d)
		}
	}
}

// The bytes of an operation are those of layer 8.
func TestEntryBytesOfOps(t *testing.T) {
	for _, o := range ops() {
		op, _ := config.OpBytes(o)
		b, e := wire.EntryBytes(api.Entry{Kind: api.EntOp, Epoch: 1, Index: 1, Op: o})
		if want := slices.Concat([]byte{1, 1, 1, 1, 1, 1}, block(op)); !bytes.Equal(b, want) || e != api.OK {
			t.Errorf("%v: %x %d", o, b, e)
		}
	}
}

func TestReadEntryOfWrongBytes(t *testing.T) {
	zero := make([]byte, 32)
	op := opBytes(ops()[1])
	head := []byte{1, 1, 1, 1, 1, 1}
	open := []byte{1, 2, 1, 1, 1, 1}
	for _, b := range [][]byte{
		nil,
		{0},
		{1},
		{1, 3},
		{1, 3, 1, 6},
		{1, 3, 1, 6, 1, 7},
		{1, 3, 1, 6, 1, 7, 1},
		{1, 3, 1, 6, 1, 7, 0},
		{1, 3, 1, 6, 0, 1, 8},
		{1, 3, 0, 1, 7, 1, 8},
		{0, 1, 6, 1, 7, 1, 8},
		{1, 4, 1, 6, 1, 7, 1, 8},
		{1, 3, 1, 6, 1, 7, 1, 8, 0},
		{1, 3, 1, 6, 1, 7, 1, 8, 1, 8},
		{2, 0, 3, 1, 6, 1, 7, 1, 8},
		{1, 3, 2, 0, 6, 1, 7, 1, 8},
		{1, 3, 1, 6, 2, 0, 7, 1, 8},
		{1, 3, 1, 6, 1, 7, 2, 0, 8},
		{9, 3, 1, 6, 1, 7, 1, 8},
		{1, 3, 5, 1, 0, 0, 0, 6, 1, 7, 1, 8},
		{2, 1, 3, 1, 6, 1, 7, 1, 8},
		{8, 1, 0, 0, 0, 0, 0, 0, 3, 1, 6, 1, 7, 1, 8},
		head,
		slices.Concat(head, []byte{0}),
		slices.Concat(head, block(make([]byte, 38))),
		slices.Concat(head, op),
		slices.Concat(head, block(op[:len(op)-1])),
		slices.Concat(head, block(slices.Concat(op, []byte{0}))),
		slices.Concat(head, block(op), []byte{0}),
		slices.Concat(head, block(op)[:20]),
		slices.Concat(head, number(1<<20+1), op),
		slices.Concat(head, number(1<<32+uint64(len(op))), op),
		slices.Concat(head, number(1<<63), op),
		slices.Concat(head, block(make([]byte, 1<<20))),
		slices.Concat(head, block(opBytes(api.Op{}))),
		slices.Concat(head, block(opBytes(api.Op{Kind: 1, ID: 65537}))),
		slices.Concat(head, block(opBytes(api.Op{Kind: 2, ID: 1, Bits: 1}))),
		slices.Concat(open, []byte{1, 1, 1, 1}, zero[1:]),
		slices.Concat(open, []byte{1, 1, 1, 1}, zero, zero[:1]),
		slices.Concat(open, []byte{0, 1, 1}, zero),
		slices.Concat(open, []byte{1, 1, 0}, zero),
		slices.Concat(open, []byte{1, 1, 3, 1, 0, 1}, zero),
		slices.Concat(open, []byte{1, 1, 5, 1, 0, 0, 0, 1}, zero),
		slices.Concat(open, []byte{1, 1, 8, 255, 255, 255, 255, 255, 255, 255, 255}, zero),
		bytes.Repeat([]byte{1}, 1000),
		bytes.Repeat([]byte{255}, 1000),
		make([]byte, 1000),
	} {
		refusedEntry(t, b)
	}
}

// P11.3: no other bytes are those of an entry

func TestReadEntryOfChangedFields(t *testing.T) {
	for _, d := range entries() {
		n := len(entryParts(d))
		for i, name := range hasEntry(d.Kind) {
			if name != "Op" && name != "Secret" {
				all := entryParts(d)
				all[i] = append([]byte{all[i][0] + 1, 0}, all[i][1:]...)
				refusedEntry(t, bytes.Join(all, nil))
			}
			readsEntry(t, bytes.Join(slices.Delete(entryParts(d), i, i+1), nil))
			readsEntry(t, bytes.Join(slices.Insert(entryParts(d), i, entryParts(d)[i]), nil))
			for j := range n {
				all := entryParts(d)
				all[i], all[j] = all[j], all[i]
				readsEntry(t, bytes.Join(all, nil))
			}
		}
		for kind := range 6 {
			all := entryParts(d)
			all[0] = number(uint64(kind))
			readsEntry(t, bytes.Join(all, nil))
		}
		// No field is written that the kind does not have.
		for _, name := range []string{"Op", "ID", "Peer", "Secret"} {
			if !slices.Contains(hasEntry(d.Kind), name) {
				for i := 1; i <= n; i++ {
					readsEntry(t, bytes.Join(slices.Insert(entryParts(d), i, entryPart(d, name)), nil))
				}
				refusedEntry(t, slices.Concat(writtenEntry(d), entryPart(d, name)))
			}
		}
	}
}

func TestReadEntryOfChangedBytes(t *testing.T) {
	random := rand.New(rand.NewSource(11))
	for _, d := range entries() {
		b := writtenEntry(d)
		for i := range b {
			refusedEntry(t, b[:i])
			for x := range 256 {
				p := bytes.Clone(b)
				p[i] = byte(x)
				readsEntry(t, p)
			}
			readsEntry(t, slices.Delete(bytes.Clone(b), i, i+1))
			readsEntry(t, slices.Insert(bytes.Clone(b), i, byte(random.Intn(256))))
			refusedEntry(t, slices.Concat(b, make([]byte, i+1)))
		}
		refusedEntry(t, slices.Concat(b, b))
		for range 200 {
			p := bytes.Clone(b)
			p[random.Intn(len(p))], p[random.Intn(len(p))] = byte(random.Intn(10)), byte(random.Intn(256))
			readsEntry(t, p)
		}
	}
}

// Numbers that are what is asked for only in their lower bits are none of that.
func TestReadEntryOfGreatNumbers(t *testing.T) {
	for _, d := range entries() {
		for i, name := range hasEntry(d.Kind) {
			if name == "Op" || name == "Secret" {
				continue
			}
			for _, shift := range []int{8, 16, 17, 31, 32, 33, 48, 62, 63} {
				all := entryParts(d)
				x := uint64(0)
				for _, c := range all[i][1:] {
					x = x<<8 | uint64(c)
				}
				all[i] = number(x | 1<<shift)
				great := name == "Kind" || name == "Peer" && x|1<<shift > 65536 || name == "Epoch" && shift > 31
				if got := readsEntry(t, bytes.Join(all, nil)); got == great {
					t.Fatalf("%s %x of %v: %t", name, x|1<<shift, d, got)
				}
			}
		}
	}
}

// Rules 3 and 4

func TestEntryBytesAreNewMemory(t *testing.T) {
	for _, d := range entries() {
		was := d
		one, _ := wire.EntryBytes(d)
		two, _ := wire.EntryBytes(d)
		ruin(one)
		if !bytes.Equal(two, writtenEntry(was)) || d != was {
			t.Fatalf("%v: %x", d, two)
		}
		isNew(t, two)
		all := append(writtenEntry(d), bytes.Repeat([]byte{0xee}, 99)...)
		b := all[:len(all)-99]
		kept := bytes.Clone(all)
		if c, e := wire.ReadEntry(b); c != was || e != api.OK || !bytes.Equal(all, kept) {
			t.Fatalf("%v: %v %d", d, c, e)
		}
		// What is behind the bytes is not read.
		refusedEntry(t, b[:len(b)-1])
	}
	for _, b := range [][]byte{nil, {}, make([]byte, 0, 9), writtenEntry(entries()[0])[:0]} {
		refusedEntry(t, b)
	}
}
