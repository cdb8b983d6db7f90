package record_test

import (
	"bytes"
	"math"
	"math/rand"
	"slices"
	"testing"

	"drawbridge/api"
	"drawbridge/record"
)

// reads checks that b is refused, or read as the valid state of which it is the bytes.
func reads(t *testing.T, b []byte) bool {
	t.Helper()
	k, e := record.Read(b)
	if e == api.OK && (!valid(k) || !bytes.Equal(written(k), b)) || e != api.OK && (e != api.ErrBad || !nothing(k)) {
		t.Fatalf("%x: %v %d", b, k, e)
	}
	return e == api.OK
}

// readsBase is the same for bases.
func readsBase(t *testing.T, b []byte) bool {
	t.Helper()
	x, e := record.ReadBase(b)
	if e == api.OK && (!validBase(x) || !bytes.Equal(writtenBase(x), b)) || e != api.OK && (e != api.ErrBad || !noBase(x)) {
		t.Fatalf("%x: %v %d", b, x, e)
	}
	return e == api.OK
}

// readsRecord is the same for records.
func readsRecord(t *testing.T, b []byte) bool {
	t.Helper()
	r, e := record.ReadRecord(b)
	if e == api.OK && (!validRecord(r) || !bytes.Equal(writtenRecord(r), b)) || e != api.OK && (e != api.ErrBad || !noRecord(r)) {
		t.Fatalf("%x: %v %d", b, r, e)
	}
	return e == api.OK
}

// refused checks that b is the bytes of no state.
func refused(t *testing.T, b []byte) {
	t.Helper()
	if reads(t, b) {
		t.Errorf("%x is a state", b)
	}
}

func refusedBase(t *testing.T, b []byte) {
	t.Helper()
	if readsBase(t, b) {
		t.Errorf("%x is a base", b)
	}
}

func refusedRecord(t *testing.T, b []byte) {
	t.Helper()
	if readsRecord(t, b) {
		t.Errorf("%x is a record", b)
	}
}

// checkBytes checks Bytes and Read of k, valid or not.
func checkBytes(t *testing.T, k api.Kept) {
	t.Helper()
	b, e := record.Bytes(k)
	if !valid(k) {
		if e != api.ErrArg || cap(b) != 0 {
			t.Fatalf("%v: %x %d", k, b, e)
		}
		reads(t, written(k))
		return
	}
	if e != api.OK || !bytes.Equal(b, written(k)) {
		t.Fatalf("%v: %x %d and not %x", k, b, e, written(k))
	}
	if n, e := record.Read(b); e != api.OK || !equal(n, k) {
		t.Fatalf("%x: %v %d and not %v", b, n, e, k)
	}
}

// checkBaseBytes checks BaseBytes and ReadBase of x, valid or not.
func checkBaseBytes(t *testing.T, x api.Base) {
	t.Helper()
	b, e := record.BaseBytes(x)
	if !validBase(x) {
		if e != api.ErrArg || cap(b) != 0 {
			t.Fatalf("%v: %x %d", x, b, e)
		}
		readsBase(t, writtenBase(x))
		return
	}
	if e != api.OK || !bytes.Equal(b, writtenBase(x)) {
		t.Fatalf("%v: %x %d and not %x", x, b, e, writtenBase(x))
	}
	if y, e := record.ReadBase(b); e != api.OK || !equalBase(x, y) {
		t.Fatalf("%x: %v %d and not %v", b, y, e, x)
	}
}

// checkRecordBytes checks RecordBytes and ReadRecord of r, valid or not.
func checkRecordBytes(t *testing.T, r api.Record) {
	t.Helper()
	b, e := record.RecordBytes(r)
	if !validRecord(r) {
		if e != api.ErrArg || cap(b) != 0 {
			t.Fatalf("%v: %x %d", r, b, e)
		}
		readsRecord(t, writtenRecord(r))
		return
	}
	if e != api.OK || !bytes.Equal(b, writtenRecord(r)) {
		t.Fatalf("%v: %x %d and not %x", r, b, e, writtenRecord(r))
	}
	if n, e := record.ReadRecord(b); e != api.OK || !equalRecord(n, r) {
		t.Fatalf("%x: %v %d and not %v", b, n, e, r)
	}
}

// P14.2: Bytes and Read

func TestBytes(t *testing.T) {
	secret := bytes32(5)
	shut := []byte{1, 3, 1, 1, 1, 1, 1, 9}
	initial := []byte{1, 8, 0, 0, 1, 2, 0, 0, 0, 0}
	for _, x := range []struct {
		k api.Kept
		b []byte
	}{
		{api.Kept{}, join([]byte{0, 0}, initial, []byte{0, 0})},
		{api.Kept{Term: 300, Own: 7}, join([]byte{2, 1, 44, 1, 7}, initial, []byte{0, 0})},
		{api.Kept{Term: math.MaxUint32}, join([]byte{4, 255, 255, 255, 255, 0}, initial, []byte{0, 0})},
		{api.Kept{Term: 1, Entries: []api.Entry{entShut(1, 1, 9)}}, join([]byte{1, 1, 0}, initial, []byte{1, 1, 1, 8}, shut, []byte{0})},
		{api.Kept{Term: 2, Own: 1, Flows: []api.Flow{{ID: 9, Out: api.Counter{Next: 1, Leased: 16}, In: api.Window{Floor: 1, Top: 2, Seen: 3, Limit: 300}}, {ID: 256, Out: api.Counter{Next: 1}, In: api.Window{Floor: 1, Limit: 1}}}},
			join([]byte{1, 2, 1, 1}, initial, []byte{0, 1, 2}, []byte{1, 9, 1, 4, 1, 1, 1, 16, 1, 9, 1, 1, 1, 2, 1, 3, 2, 1, 44}, []byte{2, 1, 0, 1, 3, 1, 1, 0, 1, 6, 1, 1, 0, 0, 1, 1})},
		{api.Kept{Term: 3, Base: api.Base{Index: 7, Epoch: 3, Config: api.Config{Peers: []api.Member{{ID: 2, Key: secret, Off: true}}, Routes: []api.Route{{Addr: 1 << 31, Bits: 1, Peer: 2}}}, Sessions: []api.Session{{ID: 5, Peer: 65536, Secret: secret}}, Refs: []uint64{4, 0}}},
			join([]byte{1, 3, 0}, []byte{1, 100}, []byte{1, 7, 1, 3}, []byte{1, 49}, []byte{1, 1, 1, 2}, secret[:], []byte{1, 1}, []byte{1, 1, 4, 128, 0, 0, 0, 1, 1, 1, 2},
				[]byte{1, 1, 1, 5, 3, 1, 0, 0}, secret[:], []byte{1, 2, 1, 4, 0}, []byte{0, 0})},
	} {
		if b, e := record.Bytes(x.k); e != api.OK || !bytes.Equal(b, x.b) {
			t.Errorf("%v: %x %d and not %x", x.k, b, e, x.b)
		}
		if k, e := record.Read(x.b); e != api.OK || !equal(k, x.k) {
			t.Errorf("%x: %v %d and not %v", x.b, k, e, x.k)
		}
	}
}

func TestBaseBytes(t *testing.T) {
	secret := bytes32(9)
	for _, x := range []struct {
		x api.Base
		b []byte
	}{
		{api.Base{}, []byte{0, 0, 1, 2, 0, 0, 0, 0}},
		{api.Base{Index: 300, Epoch: 2}, []byte{2, 1, 44, 1, 2, 1, 2, 0, 0, 0, 0}},
		{api.Base{Refs: []uint64{0, 1, math.MaxUint64}}, []byte{0, 0, 1, 2, 0, 0, 0, 1, 3, 0, 1, 1, 8, 255, 255, 255, 255, 255, 255, 255, 255}},
		{api.Base{Sessions: []api.Session{{ID: 1, Peer: 2, Secret: secret}, {ID: 256, Peer: 1}}},
			join([]byte{0, 0, 1, 2, 0, 0, 1, 2, 1, 1, 1, 2}, secret[:], []byte{2, 1, 0, 1, 1}, make([]byte, 32), []byte{0})},
	} {
		if b, e := record.BaseBytes(x.x); e != api.OK || !bytes.Equal(b, x.b) {
			t.Errorf("%v: %x %d and not %x", x.x, b, e, x.b)
		}
		if k, e := record.ReadBase(x.b); e != api.OK || !equalBase(k, x.x) {
			t.Errorf("%x: %v %d and not %v", x.b, k, e, x.x)
		}
	}
}

func TestRecordBytes(t *testing.T) {
	for _, x := range []struct {
		r api.Record
		b []byte
	}{
		{api.Record{Kind: 1, Epoch: 5}, []byte{1, 1, 1, 5, 0, 0, 0, 0}},
		{api.Record{Kind: 2, Epoch: 300}, []byte{1, 2, 2, 1, 44, 0, 0, 0, 0}},
		{api.Record{Kind: 3, Entry: entShut(300, 2, 9)}, []byte{1, 3, 0, 0, 0, 0, 1, 9, 1, 3, 1, 2, 2, 1, 44, 1, 9}},
		{api.Record{Kind: 4, Index: 256}, []byte{1, 4, 0, 2, 1, 0, 0, 0, 0}},
		{api.Record{Kind: 5, Base: api.Base{Index: 7, Epoch: 3}}, []byte{1, 5, 0, 0, 0, 0, 1, 10, 1, 7, 1, 3, 1, 2, 0, 0, 0, 0}},
		{api.Record{Kind: 6, Session: 9, Upto: 16}, []byte{1, 6, 0, 0, 1, 9, 1, 16, 0}},
		{api.Record{Kind: 7, Session: 1, Upto: mostCounter + 1}, []byte{1, 7, 0, 0, 1, 1, 8, 16, 0, 0, 0, 0, 0, 0, 1, 0}},
	} {
		if b, e := record.RecordBytes(x.r); e != api.OK || !bytes.Equal(b, x.b) {
			t.Errorf("%v: %x %d and not %x", x.r, b, e, x.b)
		}
		if r, e := record.ReadRecord(x.b); e != api.OK || !equalRecord(r, x.r) {
			t.Errorf("%x: %v %d and not %v", x.b, r, e, x.r)
		}
	}
}

func TestBytesAndReadOfAllThatIsChanged(t *testing.T) {
	for _, k := range append(states(), changedStates(kept())...) {
		checkBytes(t, k)
		checkBaseBytes(t, k.Base)
	}
	for _, b := range append(changedBases(base()), changedBases(api.Base{})...) {
		checkBaseBytes(t, b)
		checkRecordBytes(t, api.Record{Kind: 5, Base: b})
		checkRecordBytes(t, api.Record{Kind: 6, Session: 1, Upto: 1, Base: b})
	}
}

func TestRecordBytesAndReadRecordOfAllEdges(t *testing.T) {
	for i, k := range states() {
		for j, r := range records(k) {
			if i < 6 || j%5 == 0 {
				checkRecordBytes(t, r)
			}
		}
	}
	for kind := -1; kind < 10; kind++ {
		for mask := range 64 {
			for _, x := range []uint64{1, 255, 1 << 32, mostCounter + 1, mostCounter + 2, math.MaxUint64} {
				of := func(bit int) uint64 { return x * uint64(mask>>bit&1) }
				r := api.Record{Kind: kind, Epoch: uint32(of(0)), Index: of(1), Session: of(2), Upto: of(3)}
				if mask>>4&1 == 1 {
					r.Entry = entOpen(x, 7, x, 9)
				}
				if mask>>5&1 == 1 {
					r.Base = base()
				}
				checkRecordBytes(t, r)
			}
		}
	}
}

func TestBytesAndReadOfMany(t *testing.T) {
	for n := range 70 {
		b := base()
		b.Sessions = manySessions(n)
		checkBaseBytes(t, b)
		b.Refs = manyRefs(n)
		checkBaseBytes(t, b)
	}
	for _, n := range []int{0, 1, 2, 127, 128, 255, 256, 257, 1000, 1023, 1024, 1025, 1026, 2000} {
		checkBytes(t, api.Kept{Term: 9, Own: 9, Base: base(), Entries: log(n, 5, 4), Flows: manyFlows(1)})
		checkBytes(t, api.Kept{Term: 9, Own: 9, Base: base(), Entries: log(1, 5, 4), Flows: manyFlows(n)})
	}
}

// The numbers and blocks of what is written, one by one, may be no others.
func TestReadOfChangedParts(t *testing.T) {
	others := [][]byte{nil, {}, {0}, {1, 0}, {1, 1}, {1, 2}, {1, 255}, {2, 0, 1}, {2, 1, 0}, {2, 1}, {9}, {9, 1, 1, 1, 1, 1, 1, 1, 1, 1},
		number(1 << 32), number(1<<32 + 1), number(mostCounter + 1), number(mostCounter + 2), number(math.MaxUint64), number(1024), number(1025), number(65), number(64),
		number(math.MaxUint32), block([]byte{0}), block([]byte{0, 0}), block(writtenBase(api.Base{})), block(writtenBase(base())), block([]byte{1, 1, 1, 16}), block(make([]byte, 300))}
	change := func(parts [][]byte, check func([]byte)) {
		for i, p := range parts {
			for _, o := range append(others, join(p, []byte{0}), join([]byte{0}, p), join(p, p), block(p), p[:max(0, len(p)-1)]) {
				n := copyOf(parts)
				n[i] = o
				check(join(n...))
			}
			check(join(slices.Delete(copyOf(parts), i, i+1)...))
			if i > 0 {
				n := copyOf(parts)
				n[i], n[i-1] = n[i-1], n[i]
				check(join(n...))
			}
		}
	}
	for i, k := range append(states(), kept()) {
		if len(k.Entries) < 100 {
			change(keptParts(k), func(b []byte) { reads(t, b) })
		}
		change(baseParts(k.Base), func(b []byte) { readsBase(t, b) })
		for j, r := range records(k) {
			if (i+j)%30 == 0 {
				change(recordParts(r), func(b []byte) { readsRecord(t, b) })
			}
		}
	}
	for _, r := range []api.Record{{Kind: 1, Epoch: 1}, {Kind: 2, Epoch: 1}, {Kind: 3, Entry: entShut(1, 1, 1)}, {Kind: 4, Index: 1}, {Kind: 5, Base: base()}, {Kind: 6, Session: 1, Upto: 1}, {Kind: 7, Session: 1, Upto: 1}} {
		change(recordParts(r), func(b []byte) { readsRecord(t, b) })
	}
}

// What is no base, no entry, no counter or no window makes no state, whatever it is read as instead.
func TestReadOfWrongBytes(t *testing.T) {
	initial := block(writtenBase(api.Base{}))
	if !reads(t, join([]byte{0, 0}, initial, []byte{0, 0})) {
		t.Error("the initial state is refused")
	}
	for _, b := range [][]byte{nil, {}, {0}, {0, 0}, {0, 0, 0}, {0, 0, 1, 0}, {1, 1, 1, 1}, {0, 0, 1, 1}, {0, 0, 1, 1, 0}, {0, 0, 1, 2, 0, 0},
		{0, 0, 1, 2, 0, 1}, {0, 0, 1, 2, 0, 0, 1, 1}, {0, 0, 0, 0, 0}, {0, 0, 1, 1, 0, 0, 0}, {0, 0, 1, 2, 0, 0, 0}, {0, 0, 1, 3, 0, 0, 0, 0, 0}, {0, 0, 1, 2, 0, 0, 0, 0, 0}} {
		refused(t, b)
		refusedBase(t, b)
		refused(t, join([]byte{0, 0}, block(b), []byte{0, 0}))
	}
	refused(t, join([]byte{0, 0}, initial, []byte{0, 0, 0}))
	refused(t, join([]byte{0, 0}, initial, []byte{0}))
	refused(t, join([]byte{0, 1, 1}, initial, []byte{0, 0}))
	refused(t, join([]byte{1, 1, 0}, initial, []byte{1, 1, 0, 0}))
	refused(t, join([]byte{1, 1, 0}, initial, []byte{1, 1, 1, 8}, []byte{1, 3, 1, 1, 1, 2, 1, 9}, []byte{0}))
	refused(t, join([]byte{1, 1, 1, 1}, initial, []byte{0, 1, 1}, []byte{1, 9, 0, 0}))
	refused(t, join([]byte{1, 1, 1, 1}, initial, []byte{0, 1, 1}, []byte{1, 9, 1, 3, 1, 1, 0, 0}))
	refused(t, join([]byte{1, 1, 1, 1}, initial, []byte{0, 1, 1}, []byte{1, 9, 0, 1, 6, 1, 1, 0, 0, 1, 1}))
	if b := []byte{1, 9, 1, 3, 1, 1, 0, 1, 6, 1, 1, 0, 0, 1, 1}; !reads(t, join([]byte{1, 1, 1, 1}, initial, []byte{0, 1, 1}, b)) {
		t.Error("a flow is refused")
	}
	for _, b := range [][]byte{nil, {}, {0}, {1, 1}, {1, 0, 1, 5, 0, 0, 0, 0}, {0, 1, 5, 0, 0, 0, 0}, {1, 8, 1, 5, 0, 0, 0, 0}, {1, 1, 1, 5, 0, 0, 0}, {1, 1, 0, 0, 0, 0, 0},
		{1, 1, 1, 5, 0, 0, 0, 0, 0}, {1, 1, 1, 5, 0, 0, 0, 1, 1}, {1, 1, 1, 5, 0, 0, 0, 1, 1, 0}, {1, 1, 5, 1, 0, 0, 0, 0, 0, 0, 0, 0}, {1, 4, 0, 1, 1, 0, 0, 1, 1, 7},
		{1, 6, 0, 0, 1, 9, 1, 16, 1, 1, 0}, {1, 3, 0, 0, 0, 0, 0}, {1, 3, 0, 0, 0, 0, 1, 1, 0}, {1, 5, 0, 0, 0, 0, 0}, {1, 5, 0, 0, 0, 0, 1, 8, 0, 0, 1, 2, 0, 0, 0, 0},
		{1, 5, 0, 0, 0, 0, 1, 1, 0}, {1, 3, 0, 0, 0, 0, 1, 10, 1, 7, 1, 3, 1, 2, 0, 0, 0, 0}, {1, 5, 0, 0, 0, 0, 1, 8, 1, 3, 1, 2, 1, 1, 1, 9},
		{2, 1, 1, 1, 5, 0, 0, 0, 0}, {4, 1, 0, 0, 1, 1, 5, 0, 0, 0, 0}} {
		refusedRecord(t, b)
	}
}

// Counts that are too great are refused, also if there is nothing of what they count.
func TestReadOfGreatNumbers(t *testing.T) {
	initial := block(writtenBase(api.Base{}))
	for _, n := range []uint64{1, 64, 65, 1024, 1025, 1 << 20, 1<<20 + 1, 1 << 31, 1 << 32, 1 << 40, 1 << 63, math.MaxUint64} {
		refused(t, join([]byte{1, 9, 1, 9}, initial, number(n), []byte{0}))
		refused(t, join([]byte{1, 9, 1, 9}, initial, []byte{0}, number(n)))
		refused(t, join([]byte{1, 9, 1, 9}, number(n), initial, []byte{0, 0}))
		refusedBase(t, join([]byte{0, 0, 1, 2, 0, 0}, number(n), []byte{0}))
		refusedBase(t, join([]byte{0, 0, 1, 2, 0, 0, 0}, number(n)))
		refusedBase(t, join([]byte{0, 0}, number(n), []byte{0, 0, 0, 0}))
		refusedRecord(t, join([]byte{1, 3, 0, 0, 0, 0}, number(n)))
	}
	for _, n := range []uint64{1 << 32, 1<<32 + 1, 1<<32 + 5, 1 << 63} {
		refused(t, join(number(n), []byte{0}, initial, []byte{0, 0}))
		refused(t, join([]byte{1, 9}, number(n), initial, []byte{0, 0}))
		refusedBase(t, join([]byte{1, 1}, number(n), []byte{1, 2, 0, 0, 0, 0}))
		refusedRecord(t, join([]byte{1, 1}, number(n), []byte{0, 0, 0, 0}))
		refusedRecord(t, join(number(n+1), []byte{1, 5, 0, 0, 0, 0}))
	}
	b := base()
	b.Sessions[0].Peer = 1 << 33
	refusedBase(t, writtenBase(b))
	b.Sessions[0].Peer = 1<<32 + 1
	refusedBase(t, writtenBase(b))
}

// small is a state of few bytes.
func small() api.Kept {
	return api.Kept{
		Term:    300,
		Own:     7,
		Base:    api.Base{Index: 2, Epoch: 1, Config: api.Config{Peers: []api.Member{{ID: 1}}, Routes: []api.Route{{Bits: 1, Peer: 1}}}, Sessions: []api.Session{{ID: 3, Peer: 1}}, Refs: []uint64{5, 6}},
		Entries: []api.Entry{entShut(3, 2, 3), entShut(4, 9, 3)},
		Flows:   []api.Flow{{ID: 3, Out: api.Counter{Next: 2, Leased: 300}, In: api.Window{Floor: 1, Top: 2, Seen: 3, Limit: 300}}},
	}
}

func TestReadOfChangedBytes(t *testing.T) {
	whole := written(small())
	if !reads(t, whole) {
		t.Fatal("it is refused")
	}
	known := map[bool]int{}
	for i := range whole {
		for x := range 256 {
			b := bytes.Clone(whole)
			b[i] = byte(x)
			known[reads(t, b)]++
		}
		refused(t, whole[:i])
		reads(t, whole[i+1:])
		reads(t, slices.Insert(bytes.Clone(whole), i, 0xff))
	}
	if known[true] < 1000 || known[false] < 1000 {
		t.Error(known)
	}
	for x := range 256 {
		refused(t, append(bytes.Clone(whole), byte(x)))
	}
	base := writtenBase(small().Base)
	for i := range base {
		for x := range 256 {
			b := bytes.Clone(base)
			b[i] = byte(x)
			readsBase(t, b)
		}
		refusedBase(t, base[:i])
		readsBase(t, base[i+1:])
	}
	refusedBase(t, append(bytes.Clone(base), 0))
}

func TestReadRecordOfChangedBytes(t *testing.T) {
	for _, r := range []api.Record{{Kind: 1, Epoch: 300}, {Kind: 2, Epoch: 5}, {Kind: 3, Entry: entShut(3, 2, 1)}, {Kind: 3, Entry: entOp(3, 2, api.Op{Kind: 5, Ref: 3})},
		{Kind: 4, Index: 300}, {Kind: 5, Base: small().Base}, {Kind: 6, Session: 300, Upto: 16}, {Kind: 7, Session: 9, Upto: 300}} {
		whole := writtenRecord(r)
		if !readsRecord(t, whole) {
			t.Fatalf("%x is refused", whole)
		}
		for i := range whole {
			for x := range 256 {
				b := bytes.Clone(whole)
				b[i] = byte(x)
				readsRecord(t, b)
			}
			refusedRecord(t, whole[:i])
			readsRecord(t, whole[i+1:])
		}
		for x := range 256 {
			refusedRecord(t, append(bytes.Clone(whole), byte(x)))
		}
	}
}

// No two values have the same bytes.
func TestBytesAreUnique(t *testing.T) {
	seen := map[string]api.Kept{}
	for _, k := range append(states(), changedStates(kept())...) {
		b, e := record.Bytes(k)
		if e != api.OK {
			continue
		}
		if n, there := seen[string(b)]; there && !equal(n, k) {
			t.Fatalf("%v and %v", n, k)
		}
		seen[string(b)] = k
	}
	if len(seen) < 300 {
		t.Error(len(seen))
	}
}

// Any bytes are refused, or are those of what is read.
func TestReadOfAnyBytes(t *testing.T) {
	r := rand.New(rand.NewSource(4))
	wholes := [][]byte{written(small()), writtenBase(small().Base), written(api.Kept{}), writtenRecord(api.Record{Kind: 5, Base: small().Base})}
	for range 60000 {
		b := bytes.Clone(wholes[r.Intn(len(wholes))])
		for range r.Intn(4) {
			i := r.Intn(len(b))
			switch r.Intn(3) {
			case 0:
				b[i] = byte(r.Intn(4))
			case 1:
				b = slices.Insert(b, i, byte(r.Intn(3)))
			default:
				b = slices.Delete(b, i, i+1)
			}
		}
		reads(t, b)
		readsBase(t, b)
		readsRecord(t, b)
	}
}
