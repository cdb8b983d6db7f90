package record_test

import (
	"bytes"
	"slices"
	"testing"
	"unsafe"

	"drawbridge/api"
	"drawbridge/record"
)

// Rules 3 and 4

// room is how much spare capacity roomy gives.
const room = 40

// spread is l with spare capacity that is filled with x.
func spread[T any](l []T, x T) []T {
	n := append(copyOf(l), slices.Repeat([]T{x}, room)...)
	return n[:len(l)]
}

// fill writes x over l and over its spare capacity.
func fill[T any](l []T, x T) {
	l = l[:cap(l)]
	for i := range l {
		l[i] = x
	}
}

// roomyBase is b with filled spare capacity everywhere.
func roomyBase(b api.Base) api.Base {
	b.Config.Peers = spread(b.Config.Peers, api.Member{ID: 70000})
	b.Config.Routes = spread(b.Config.Routes, api.Route{Bits: 77})
	b.Sessions = spread(b.Sessions, api.Session{ID: 1, Peer: 1})
	b.Refs = spread(b.Refs, 77)
	return b
}

// roomy is k with filled spare capacity everywhere.
func roomy(k api.Kept) api.Kept {
	k.Base = roomyBase(k.Base)
	k.Entries = spread(k.Entries, entShut(1, 1, 1))
	k.Flows = spread(k.Flows, flow(1))
	return k
}

// wide is all of the memory of what roomyBase made.
func wideBase(b api.Base) api.Base {
	b.Config.Peers = b.Config.Peers[:len(b.Config.Peers)+room]
	b.Config.Routes = b.Config.Routes[:len(b.Config.Routes)+room]
	b.Sessions = b.Sessions[:len(b.Sessions)+room]
	b.Refs = b.Refs[:len(b.Refs)+room]
	return b
}

// wide is all of the memory of what roomy made.
func wide(k api.Kept) api.Kept {
	k.Base = wideBase(k.Base)
	k.Entries = k.Entries[:len(k.Entries)+room]
	k.Flows = k.Flows[:len(k.Flows)+room]
	return k
}

// ruinBase writes over all of the memory of b.
func ruinBase(b api.Base) {
	fill(b.Config.Peers, api.Member{ID: 99})
	fill(b.Config.Routes, api.Route{Bits: 99})
	fill(b.Sessions, api.Session{ID: 99})
	fill(b.Refs, 99)
}

// ruin writes over all of the memory of k.
func ruin(k api.Kept) {
	ruinBase(k.Base)
	fill(k.Entries, api.Entry{Kind: 99})
	fill(k.Flows, api.Flow{ID: 99})
}

// span is the memory of a slice: where it begins, and where it ends.
type span struct{ from, to uintptr }

func spanOf[T any](l []T) span {
	from := uintptr(unsafe.Pointer(unsafe.SliceData(l)))
	return span{from, from + uintptr(cap(l))*unsafe.Sizeof(*new(T))}
}

func spansOfBase(b api.Base) []span {
	return []span{spanOf(b.Config.Peers), spanOf(b.Config.Routes), spanOf(b.Sessions), spanOf(b.Refs)}
}

func spansOf(k api.Kept) []span {
	return append(spansOfBase(k.Base), spanOf(k.Entries), spanOf(k.Flows))
}

// alone checks that none of the slices of a result is a piece of another slice, be it without elements.
func alone(t *testing.T, got, others []span) {
	t.Helper()
	for i, a := range got {
		for j, b := range append(copyOf(got), others...) {
			if i != j && a.from != 0 && a.from >= b.from && a.from < b.to {
				t.Fatalf("slice %d is a piece of %d", i, j)
			}
		}
	}
}

// cleared checks that nothing is in the spare capacity of l.
func cleared[T comparable](t *testing.T, l []T) {
	t.Helper()
	for _, x := range l[len(l):cap(l)] {
		if x != *new(T) {
			t.Fatalf("spare: %v", x)
		}
	}
}

func clearedBase(t *testing.T, b api.Base) {
	t.Helper()
	cleared(t, b.Config.Peers)
	cleared(t, b.Config.Routes)
	cleared(t, b.Sessions)
	cleared(t, b.Refs)
}

func clearedKept(t *testing.T, k api.Kept) {
	t.Helper()
	clearedBase(t, k.Base)
	cleared(t, k.Entries)
	cleared(t, k.Flows)
}

// possible are records of each kind that are possible in kept().
func possible() []api.Record {
	led, other := base(), base()
	led.Index, led.Epoch = 8, 4
	other.Index, other.Epoch = 8, 9
	all := base()
	all.Index, all.Epoch = 10, 8
	return []api.Record{{Kind: 1, Epoch: 20}, {Kind: 2, Epoch: 20}, {Kind: 3, Entry: entShut(11, 9, 1)}, {Kind: 4, Index: 6}, {Kind: 4, Index: 8}, {Kind: 4, Index: 11},
		{Kind: 5, Base: led}, {Kind: 5, Base: other}, {Kind: 5, Base: all}, {Kind: 6, Session: 9, Upto: 1 << 40}, {Kind: 6, Session: 10, Upto: 1}, {Kind: 7, Session: 1, Upto: 1 << 40},
		{Kind: 7, Session: 1 << 50, Upto: 1 << 40}, {Kind: 4, Index: 5}, {Kind: 1, Epoch: 2}}
}

func TestDoIsNewMemory(t *testing.T) {
	bare := kept()
	bare.Entries, bare.Flows = nil, nil
	bare.Base = api.Base{Index: 5, Epoch: 3}
	for _, k := range []api.Kept{kept(), bare} {
		for _, r := range possible() {
			k, n := roomy(k), copyKept(wide(roomy(k)))
			r.Base = roomyBase(r.Base)
			b := copyBase(wideBase(r.Base))
			want, _ := done(k, r)
			got, e := record.Do(k, r)
			clearedKept(t, got)
			alone(t, spansOf(got), append(spansOf(k), spansOfBase(r.Base)...))
			if !equal(wide(k), n) || !equalBase(wideBase(r.Base), b) {
				t.Fatalf("%v: it changed", r)
			}
			ruin(k)
			ruinBase(r.Base)
			if e == api.OK && !equal(got, want) {
				t.Fatalf("%v: %v and not %v", r, got, want)
			}
		}
	}
}

func TestEnterIsNewMemory(t *testing.T) {
	full := base()
	full.Sessions, full.Refs = manySessions(64), manyRefs(64)
	for _, was := range []api.Base{base(), full, {Index: 5, Epoch: 3}} {
		for _, e := range []api.Entry{entOp(6, 3, api.Op{Kind: 1, Ref: 77, ID: 5}), entOp(6, 3, api.Op{Kind: 1, Ref: 9, ID: 5}), entOp(6, 3, api.Op{Kind: 2, Ref: 77, ID: 1}),
			entOp(6, 3, api.Op{Kind: 3, Ref: 77, ID: 1}), entOp(6, 3, api.Op{Kind: 3, Ref: 77, ID: 50}), entOp(6, 3, api.Op{Kind: 4, Ref: 77, ID: 1}),
			entOp(6, 3, api.Op{Kind: 5, Ref: 77}), entOpen(6, 3, 8, 1), entOpen(6, 3, 9, 1), entOpen(6, 3, 9, 2), entShut(6, 3, 9), entShut(6, 3, 10), entShut(5, 3, 9)} {
			b := roomyBase(was)
			n := copyBase(wideBase(b))
			want, _ := entered(b, e)
			got, err := record.Enter(b, e)
			clearedBase(t, got)
			alone(t, spansOfBase(got), spansOfBase(b))
			if !equalBase(wideBase(b), n) {
				t.Fatalf("%v: it changed", e)
			}
			ruinBase(b)
			if err == api.OK && !equalBase(got, want) {
				t.Fatalf("%v: %v and not %v", e, got, want)
			}
		}
	}
}

func TestRecoverIsNewMemory(t *testing.T) {
	for _, was := range states() {
		k := roomy(was)
		n := copyKept(wide(k))
		got, e := record.Recover(k)
		clearedKept(t, got)
		alone(t, spansOf(got), spansOf(k))
		if e != api.OK || !equal(wide(k), n) {
			t.Fatalf("%v: it changed", was)
		}
		ruin(k)
		if !equal(got, recovered(was)) {
			t.Fatalf("%v: %v", was, got)
		}
	}
}

// Questions and bytes read no spare capacity, and change nothing.
func TestNoArgumentIsChanged(t *testing.T) {
	for _, was := range append(states(), changedStates(small())...) {
		k := roomy(was)
		n := copyKept(wide(k))
		r := api.Record{Kind: 5, Base: k.Base}
		e, f := record.Check(k), record.CheckBase(k.Base)
		g := record.CheckRecord(r)
		same := record.Same(k, was) && record.Same(was, k)
		b, _ := record.Bytes(k)
		c, _ := record.BaseBytes(k.Base)
		d, _ := record.RecordBytes(r)
		_, there := record.Flow(k, 3)
		if !equal(wide(k), n) {
			t.Fatalf("%v: it changed", was)
		}
		if !same || (e == api.OK) != valid(was) || (f == api.OK) != validBase(was.Base) || (g == api.OK) != validRecord(r) || there != slices.Contains(flowIDs(was.Flows), 3) {
			t.Fatalf("%v: %d %d %d %t %t", was, e, f, g, same, there)
		}
		ruin(k)
		if e == api.OK && !bytes.Equal(b, written(was)) || f == api.OK && !bytes.Equal(c, writtenBase(was.Base)) || g == api.OK && !bytes.Equal(d, writtenRecord(api.Record{Kind: 5, Base: was.Base})) {
			t.Fatalf("%v: %x %x %x", was, b, c, d)
		}
		for _, b := range [][]byte{b, c, d} {
			cleared(t, b)
			fill(b, 0xee)
		}
		if k := roomy(was); e == api.OK {
			if b, _ := record.Bytes(k); !bytes.Equal(b, written(was)) {
				t.Fatalf("%v: %x", was, b)
			}
		}
	}
}

func TestReadIsNewMemory(t *testing.T) {
	for _, k := range append(states(), kept()) {
		b := spread(written(k), 0)
		c := spread(writtenBase(k.Base), 0)
		r := api.Record{Kind: 5, Base: k.Base}
		d := spread(writtenRecord(r), 0)
		got, e := record.Read(b)
		x, f := record.ReadBase(c)
		y, g := record.ReadRecord(d)
		clearedKept(t, got)
		clearedBase(t, x)
		clearedBase(t, y.Base)
		alone(t, spansOf(got), append(spansOfBase(x), spansOfBase(y.Base)...))
		if !bytes.Equal(b, written(k)) || !bytes.Equal(c, writtenBase(k.Base)) || !bytes.Equal(d, writtenRecord(r)) || slices.Max(b[len(b):len(b)+room]) != 0 {
			t.Fatalf("%v: it changed", k)
		}
		for _, b := range [][]byte{b, c, d} {
			fill(b, 0xee)
		}
		if e != api.OK || f != api.OK || !equal(got, k) || !equalBase(x, k.Base) || (g == api.OK) != validRecord(r) || g == api.OK && !equalRecord(y, r) {
			t.Fatalf("%v: %v %d, %v %d, %v %d", k, got, e, x, f, y, g)
		}
		ruin(got)
		again, _ := record.Read(written(k))
		if !equal(again, k) || !record.Same(record.New(), api.Kept{}) {
			t.Fatalf("%v: %v", k, again)
		}
	}
}

// What is after the bytes is none of them.
func TestReadOfSpareCapacity(t *testing.T) {
	whole := written(small())
	for n := range whole {
		refused(t, whole[:n])
	}
	refusedBase(t, []byte{0, 0, 1, 2, 0, 0, 0, 0}[:7])
	refusedRecord(t, []byte{1, 1, 1, 5, 0, 0, 0, 0}[:7])
}

// hollow is k with empty slices in place of nil ones.
func hollow(k api.Kept) api.Kept {
	k.Base = hollowBase(k.Base)
	k.Entries = append([]api.Entry{}, k.Entries...)
	k.Flows = append([]api.Flow{}, k.Flows...)
	return k
}

func hollowBase(b api.Base) api.Base {
	b.Config.Peers = append([]api.Member{}, b.Config.Peers...)
	b.Config.Routes = append([]api.Route{}, b.Config.Routes...)
	b.Sessions = append([]api.Session{}, b.Sessions...)
	b.Refs = append([]uint64{}, b.Refs...)
	return b
}

func TestNilAndEmptyAreTheSame(t *testing.T) {
	for _, k := range states() {
		n := hollow(k)
		a, e := record.Bytes(k)
		b, f := record.Bytes(n)
		if !record.Same(k, n) || !record.Same(n, k) || e != api.OK || f != api.OK || !bytes.Equal(a, b) || record.CheckBase(n.Base) != api.OK {
			t.Fatalf("%v: %d %d", k, e, f)
		}
		for i, r := range records(k) {
			if i%20 == 0 {
				does(t, n, r)
				r.Base = hollowBase(r.Base)
				does(t, k, r)
				checkRecordBytes(t, r)
			}
		}
	}
	for _, r := range []api.Record{{Kind: 1, Epoch: 1}, {Kind: 3, Entry: entShut(1, 1, 1)}, {Kind: 4, Index: 1}, {Kind: 5}, {Kind: 6, Session: 1, Upto: 1}, {}} {
		n := r
		n.Base = hollowBase(r.Base)
		if e, f := record.CheckRecord(r), record.CheckRecord(n); e != f || (e == api.OK) != validRecord(r) {
			t.Errorf("%v: %d %d", r, e, f)
		}
	}
	for _, b := range [][]byte{nil, {}} {
		refused(t, b)
		refusedBase(t, b)
		refusedRecord(t, b)
	}
}
