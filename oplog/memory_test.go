package oplog_test

import (
	"bytes"
	"slices"
	"testing"
	"unsafe"

	"drawbridge/api"
	"drawbridge/oplog"
	"drawbridge/record"
)

// Rules 3 and 4

// room is how much spare capacity roomy gives.
const room = 40

// spread is l with spare capacity that is filled with x.
func spread[T any](l []T, x T) []T {
	n := append(copyOf(l), slices.Repeat([]T{x}, room)...)
	return n[:len(l)]
}

// fill writes x over l and over its spare capacity.
func fill[T any](l []T, x T) {
	l = l[:cap(l)]
	for i := range l {
		l[i] = x
	}
}

// roomyBase is b with filled spare capacity everywhere.
func roomyBase(b api.Base) api.Base {
	b.Config.Peers = spread(b.Config.Peers, api.Member{ID: 70000})
	b.Config.Routes = spread(b.Config.Routes, api.Route{Bits: 77})
	b.Sessions = spread(b.Sessions, api.Session{ID: 1, Peer: 1})
	b.Refs = spread(b.Refs, 77)
	return b
}

// roomy is k with filled spare capacity everywhere.
func roomy(k api.Kept) api.Kept {
	k.Base = roomyBase(k.Base)
	k.Entries = spread(k.Entries, entShut(1, 1, 1))
	k.Flows = spread(k.Flows, flow(1))
	return k
}

// roomyMsg is m with filled spare capacity everywhere.
func roomyMsg(m api.Msg) api.Msg {
	m.Entries = spread(m.Entries, entShut(1, 1, 1))
	m.Body = spread(m.Body, 0)
	return m
}

// wideBase is all of the memory of what roomyBase made.
func wideBase(b api.Base) api.Base {
	b.Config.Peers = b.Config.Peers[:len(b.Config.Peers)+room]
	b.Config.Routes = b.Config.Routes[:len(b.Config.Routes)+room]
	b.Sessions = b.Sessions[:len(b.Sessions)+room]
	b.Refs = b.Refs[:len(b.Refs)+room]
	return b
}

// wide is all of the memory of what roomy made.
func wide(k api.Kept) api.Kept {
	k.Base = wideBase(k.Base)
	k.Entries = k.Entries[:len(k.Entries)+room]
	k.Flows = k.Flows[:len(k.Flows)+room]
	return k
}

// wideMsg is all of the memory of what roomyMsg made.
func wideMsg(m api.Msg) api.Msg {
	m.Entries = m.Entries[:len(m.Entries)+room]
	m.Body = m.Body[:len(m.Body)+room]
	return m
}

// ruinBase writes over all of the memory of b.
func ruinBase(b api.Base) {
	fill(b.Config.Peers, api.Member{ID: 99})
	fill(b.Config.Routes, api.Route{Bits: 99})
	fill(b.Sessions, api.Session{ID: 99})
	fill(b.Refs, 99)
}

// ruin writes over all of the memory of k.
func ruin(k api.Kept) {
	ruinBase(k.Base)
	fill(k.Entries, api.Entry{Kind: 99})
	fill(k.Flows, api.Flow{ID: 99})
}

// ruinMsg writes over all of the memory of m.
func ruinMsg(m api.Msg) {
	fill(m.Entries, api.Entry{Kind: 99})
	fill(m.Body, 99)
}

// span is the memory of a slice: where it begins, and where it ends.
type span struct{ from, to uintptr }

func spanOf[T any](l []T) span {
	from := uintptr(unsafe.Pointer(unsafe.SliceData(l)))
	return span{from, from + uintptr(cap(l))*unsafe.Sizeof(*new(T))}
}

func spansOfBase(b api.Base) []span {
	return []span{spanOf(b.Config.Peers), spanOf(b.Config.Routes), spanOf(b.Sessions), spanOf(b.Refs)}
}

func spansOf(k api.Kept) []span {
	return append(spansOfBase(k.Base), spanOf(k.Entries), spanOf(k.Flows))
}

func spansOfMsg(m api.Msg) []span {
	return []span{spanOf(m.Entries), spanOf(m.Body)}
}

func spansOfRecords(l []api.Record) []span {
	all := []span{spanOf(l)}
	for _, r := range l {
		all = append(all, spansOfBase(r.Base)...)
	}
	return all
}

// alone checks that none of the slices of a result is a piece of another slice, be it without elements.
func alone(t *testing.T, got, others []span) {
	t.Helper()
	for i, a := range got {
		for j, b := range append(copyOf(got), others...) {
			if i != j && a.from != 0 && a.from >= b.from && a.from < b.to {
				t.Fatalf("slice %d is a piece of %d", i, j)
			}
		}
	}
}

// cleared checks that nothing is in the spare capacity of l.
func cleared[T comparable](t *testing.T, l []T) {
	t.Helper()
	for _, x := range l[len(l):cap(l)] {
		if x != *new(T) {
			t.Fatalf("spare: %v", x)
		}
	}
}

func clearedBase(t *testing.T, b api.Base) {
	t.Helper()
	cleared(t, b.Config.Peers)
	cleared(t, b.Config.Routes)
	cleared(t, b.Sessions)
	cleared(t, b.Refs)
}

func clearedRecords(t *testing.T, l []api.Record) {
	t.Helper()
	for _, r := range l[len(l):cap(l)] {
		if !equalRecord(r, api.Record{}) {
			t.Fatalf("spare: %v", r)
		}
	}
	for _, r := range l {
		clearedBase(t, r.Base)
	}
}

// some are states without too many entries.
func some() []api.Kept {
	return slices.DeleteFunc(states(), func(k api.Kept) bool { return len(k.Entries) > 40 })
}

func TestTakeIsNewMemory(t *testing.T) {
	for _, was := range some() {
		for i, m := range messages(was) {
			if i%3 > 0 {
				continue
			}
			k, m := roomy(was), roomyMsg(m)
			n, o := copyKept(wide(k)), wideMsg(m)
			o.Entries, o.Body = copyOf(o.Entries), bytes.Clone(o.Body)
			want, reply, f := taken(k, m)
			l, h, e := oplog.Take(k, m)
			alone(t, append(spansOfRecords(l), spansOfMsg(h)...), append(spansOf(k), spansOfMsg(m)...))
			clearedRecords(t, l)
			if !equal(wide(k), n) || !equalMsg(wideMsg(m), o) {
				t.Fatalf("%v\n%v: it changed", was, m)
			}
			ruin(k)
			ruinMsg(m)
			if e != f || !equalRecords(l, want) || !equalMsg(h, reply) {
				t.Fatalf("%v\n%v: %v %v %d", was, m, l, h, e)
			}
		}
	}
}

func TestSendIsNewMemory(t *testing.T) {
	for _, was := range some() {
		for _, from := range indexes(was) {
			k := roomy(was)
			n := copyKept(wide(k))
			want, f := sent(was, from, 3, 9)
			m, e := oplog.Send(k, from, 3, 9)
			alone(t, spansOfMsg(m), spansOf(k))
			cleared(t, m.Entries)
			cleared(t, m.Body)
			if !equal(wide(k), n) {
				t.Fatalf("%v %d: it changed", was, from)
			}
			ruin(k)
			if e != f || !equalMsg(m, want) {
				t.Fatalf("%v %d: %v %d", was, from, m, e)
			}
			ruinMsg(m)
			if again, e := oplog.Send(was, from, 3, 9); e != f || !equalMsg(again, want) {
				t.Fatalf("%v %d: %v %d", was, from, again, e)
			}
		}
	}
}

func TestAppendIsNewMemory(t *testing.T) {
	for _, was := range some() {
		for _, x := range entries() {
			k := roomy(was)
			n := copyKept(wide(k))
			want, f := appended(was, x)
			l, e := oplog.Append(k, x)
			alone(t, spansOfRecords(l), spansOf(k))
			clearedRecords(t, l)
			if !equal(wide(k), n) {
				t.Fatalf("%v %v: it changed", was, x)
			}
			ruin(k)
			if e != f || !equalRecords(l, want) {
				t.Fatalf("%v %v: %v %d", was, x, l, e)
			}
		}
	}
}

func TestStateIsNewMemory(t *testing.T) {
	for _, was := range some() {
		for _, index := range indexes(was) {
			k := roomy(was)
			n := copyKept(wide(k))
			want, f := stateOf(was, index)
			b, e := oplog.State(k, index)
			l, g := oplog.Compact(k, index)
			alone(t, append(spansOfBase(b), spansOfRecords(l)...), spansOf(k))
			clearedBase(t, b)
			clearedRecords(t, l)
			if !equal(wide(k), n) {
				t.Fatalf("%v %d: it changed", was, index)
			}
			ruin(k)
			if e != f || g != f || !equalBase(b, want) || len(l) > 0 && !equalBase(l[0].Base, want) {
				t.Fatalf("%v %d: %v %v %d %d", was, index, b, l, e, g)
			}
		}
	}
}

func TestHaveIsNewMemory(t *testing.T) {
	for _, was := range some() {
		for _, l := range [][]api.Record{nil, {{Kind: 1, Epoch: was.Term + 1}}, {{Kind: 5, Base: baseAt(was.Base.Index+1, max(was.Term, 1))}}, {{Kind: 4, Index: was.Base.Index + 1}},
			{{Kind: 1, Epoch: was.Term + 1}, {Kind: 3, Entry: entShut(was.Base.Index+uint64(len(was.Entries))+1, was.Term+1, 1)}, {Kind: 5, Base: baseAt(was.Base.Index+1, max(was.Term, 1))}}} {
			k := roomy(was)
			n := copyKept(wide(k))
			given := spread(l, api.Record{Kind: 77})
			for i := range given {
				given[i].Base = roomyBase(given[i].Base)
			}
			want, f := hadOf(was, l)
			got, e := oplog.Have(k, given)
			alone(t, spansOf(got), append(spansOf(k), spansOfRecords(given)...))
			clearedBase(t, got.Base)
			cleared(t, got.Entries)
			cleared(t, got.Flows)
			if !equal(wide(k), n) || !equalRecords(given, l) || given[:len(given)+1][len(given)].Kind != 77 {
				t.Fatalf("%v %v: it changed", was, l)
			}
			ruin(k)
			for _, r := range given {
				ruinBase(r.Base)
			}
			fill(given, api.Record{Kind: 99})
			if e != f || !equal(got, want) {
				t.Fatalf("%v %v: %v %d and not %v %d", was, l, got, e, want, f)
			}
		}
	}
}

// Questions read no spare capacity, and change nothing.
func TestNoArgumentIsChanged(t *testing.T) {
	for _, was := range append(some(), faulty()...) {
		k := roomy(was)
		n := copyKept(wide(k))
		for _, index := range indexes(was) {
			e, there := oplog.At(k, index)
			if want, is := atOf(was, index); e != want || there != is {
				t.Fatalf("%v %d: %d %t", was, index, e, there)
			}
			for _, other := range []api.Kept{was, kept(), {}} {
				o := roomy(other)
				m := copyKept(wide(o))
				if oplog.Prefix(k, o, index) != prefixOf(was, other, index) || oplog.Prefix(o, k, index) != prefixOf(other, was, index) || !equal(wide(o), m) {
					t.Fatalf("%v %d", was, index)
				}
			}
		}
		index, epoch := oplog.Last(k)
		if i, e := lastOf(was); i != index || e != epoch || !equal(wide(k), n) {
			t.Fatalf("%v: %d %d", was, index, epoch)
		}
	}
}

// hollow is k with empty slices in place of nil ones.
func hollow(k api.Kept) api.Kept {
	k.Base.Config.Peers = append([]api.Member{}, k.Base.Config.Peers...)
	k.Base.Config.Routes = append([]api.Route{}, k.Base.Config.Routes...)
	k.Base.Sessions = append([]api.Session{}, k.Base.Sessions...)
	k.Base.Refs = append([]uint64{}, k.Base.Refs...)
	k.Entries = append([]api.Entry{}, k.Entries...)
	k.Flows = append([]api.Flow{}, k.Flows...)
	return k
}

func TestNilAndEmptyAreTheSame(t *testing.T) {
	for _, was := range append(some(), api.Kept{}) {
		k := hollow(was)
		for i, m := range messages(was) {
			if i%5 > 0 {
				continue
			}
			m.Entries = append([]api.Entry{}, m.Entries...)
			m.Body = append([]byte{}, m.Body...)
			takes(t, k, m)
		}
		for _, index := range indexes(was) {
			sends(t, k, index, 9, 9)
			hasState(t, k, index)
			isPrefix(t, k, was, index, prefixOf(was, was, index))
		}
		for _, l := range [][]api.Record{nil, {}} {
			if n, e := has(t, k, l); e != api.OK || !record.Same(n, was) {
				t.Fatalf("%v: %v %d", was, n, e)
			}
		}
		appends(t, k, entShut(0, 0, 7))
	}
}
