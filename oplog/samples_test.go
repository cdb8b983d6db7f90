package oplog_test

import (
	"bytes"
	"math"
	"slices"

	"drawbridge/api"
	"drawbridge/record"
)

// bytes32 are 32 bytes that are all unlike.
func bytes32(x byte) (a [32]byte) {
	for i := range a {
		a[i] = x + byte(i)*7
	}
	return a
}

// entOp is an entry with an operation.
func entOp(index uint64, epoch uint32, o api.Op) api.Entry {
	return api.Entry{Kind: 1, Epoch: epoch, Index: index, Op: o}
}

// entOpen is an entry that opens a session.
func entOpen(index uint64, epoch uint32, id uint64, peer int) api.Entry {
	return api.Entry{Kind: 2, Epoch: epoch, Index: index, Session: session(id, peer)}
}

// entShut is an entry that shuts a session.
func entShut(index uint64, epoch uint32, id uint64) api.Entry {
	return api.Entry{Kind: 3, Epoch: epoch, Index: index, Session: api.Session{ID: id}}
}

// session is one whose secret tells which one it is.
func session(id uint64, peer int) api.Session {
	return api.Session{ID: id, Peer: peer, Secret: bytes32(byte(id) + byte(peer))}
}

// flow is one of which something was used.
func flow(id uint64) api.Flow {
	return api.Flow{ID: id, Out: api.Counter{Next: 5, Leased: 16}, In: api.Window{Floor: 3, Top: 7, Seen: 0b10101, Limit: 33}}
}

// base is a base that has some of everything.
func base() api.Base {
	return api.Base{
		Index: 5,
		Epoch: 3,
		Config: api.Config{
			Peers:  []api.Member{{ID: 1, Key: bytes32(1)}, {ID: 2, Key: bytes32(2), Off: true}, {ID: 3, Key: bytes32(3)}, {ID: 65536}},
			Routes: []api.Route{{Addr: 10 << 24, Bits: 8, Peer: 1}, {Addr: 10<<24 + 1<<16, Bits: 16, Peer: 2}, {Addr: 11 << 24, Bits: 8, Peer: 3}},
		},
		Sessions: []api.Session{session(4, 1), session(7, 3), session(9, 1), session(1<<40, 77)},
		Refs:     []uint64{5, 0, 1 << 63, 9},
	}
}

// baseAt is base() with another index and epoch.
func baseAt(index uint64, epoch uint32) api.Base {
	b := base()
	b.Index, b.Epoch = index, epoch
	return b
}

// kept is the state of an active node that has some of everything.
func kept() api.Kept {
	return api.Kept{
		Term: 9,
		Own:  9,
		Base: base(),
		Entries: []api.Entry{
			entOp(6, 3, api.Op{Kind: 1, Ref: 11, ID: 7, Key: bytes32(7)}),
			entOpen(7, 4, 12, 3),
			entShut(8, 4, 4),
			entOp(9, 8, api.Op{Kind: 3, Ref: 12, ID: 1}),
			entOp(10, 8, api.Op{Kind: 4, Ref: 13, ID: 3, Addr: 12 << 24, Bits: 8}),
		},
		Flows: []api.Flow{flow(2), flow(9), {ID: 12, Out: api.Counter{Next: 1}, In: api.Window{Floor: 1, Limit: 1}}, flow(1 << 50)},
	}
}

// owned is k of an active node with that epoch.
func owned(k api.Kept, epoch uint32) api.Kept {
	k.Term, k.Own = epoch, epoch
	return k
}

// log are n entries after that with the index.
func log(n int, index uint64, epoch uint32) []api.Entry {
	var l []api.Entry
	for i := range n {
		l = append(l, entShut(index+uint64(i)+1, epoch, uint64(i)+1))
	}
	return l
}

// long is a state with n entries after a base, of an active node.
func long(n int) api.Kept {
	return api.Kept{Term: 9, Own: 9, Base: api.Base{Index: 5, Epoch: 3}, Entries: log(n, 5, 3)}
}

// states are valid ones of all sorts.
func states() []api.Kept {
	top := api.Kept{Term: math.MaxUint32, Own: math.MaxUint32, Base: api.Base{Index: math.MaxUint64 - 2, Epoch: math.MaxUint32 - 1}}
	top.Entries = []api.Entry{entShut(math.MaxUint64-1, math.MaxUint32, 1)}
	end := copyKept(top)
	end.Entries = append(end.Entries, entShut(math.MaxUint64, math.MaxUint32, 1))
	near := api.Kept{Term: 5, Own: 5, Base: api.Base{Index: 1<<62 - 2, Epoch: 2}, Entries: log(4, 1<<62-2, 3)}
	stale, other := kept(), kept()
	stale.Own = 8
	other.Own, other.Flows = 0, nil
	bare := kept()
	bare.Entries, bare.Flows = nil, nil
	return []api.Kept{{}, {Term: 5}, {Term: 5, Own: 5}, {Term: 5, Own: 1}, kept(), stale, other, bare, top, end, near, {Term: 6, Own: 6, Base: api.Base{Index: math.MaxUint64, Epoch: 6}},
		long(1024), long(1023), long(1000), long(33), long(32), long(31), long(1),
		{Term: 3, Own: 3, Entries: []api.Entry{entShut(1, 1, 1), entShut(2, 1, 1), entShut(3, 2, 1), entShut(4, 3, 1), entShut(5, 3, 1)}},
		{Term: 3, Own: 3, Base: api.Base{Refs: []uint64{7, 7}}, Entries: []api.Entry{entShut(1, 3, 1)}}}
}

// faulty are states that are not valid, of all sorts.
func faulty() []api.Kept {
	var all []api.Kept
	for _, change := range []func(*api.Kept){
		func(k *api.Kept) { k.Own = 10 },
		func(k *api.Kept) { k.Own = 0 },
		func(k *api.Kept) { k.Term = 7 },
		func(k *api.Kept) { k.Base.Index = 4 },
		func(k *api.Kept) { k.Base.Epoch = 0 },
		func(k *api.Kept) { k.Base.Config.Peers[0].ID = 0 },
		func(k *api.Kept) { k.Base.Sessions[1].ID = 3 },
		func(k *api.Kept) { k.Base.Refs = make([]uint64, 65) },
		func(k *api.Kept) { k.Entries[1].Epoch = 2 },
		func(k *api.Kept) { k.Entries[2].Session.ID = 0 },
		func(k *api.Kept) { k.Entries = log(1025, 5, 3) },
		func(k *api.Kept) { k.Entries = k.Entries[1:] },
		func(k *api.Kept) { k.Flows[0].ID = 10 },
		func(k *api.Kept) { k.Flows[2].In.Limit = 0 },
		func(k *api.Kept) { *k = api.Kept{Own: 1} },
		func(k *api.Kept) { *k = api.Kept{Base: api.Base{Index: 1}} },
		func(k *api.Kept) { *k = api.Kept{Term: 1, Base: api.Base{Index: 5, Epoch: 2}} },
	} {
		k := kept()
		change(&k)
		all = append(all, k)
	}
	return all
}

// indexes are those at which something might change for k.
func indexes(k api.Kept) []uint64 {
	l := []uint64{0, 1, 2, 3, 4, 1 << 31, 1 << 32, 1<<62 - 1, 1 << 62, 1<<62 + 1, 1 << 63, math.MaxUint64 - 1, math.MaxUint64}
	last := k.Base.Index + uint64(len(k.Entries))
	for _, x := range []uint64{k.Base.Index, last, k.Base.Index + uint64(len(k.Entries))/2} {
		l = append(l, x-2, x-1, x, x+1, x+2, x+31, x+32, x+33)
	}
	slices.Sort(l)
	return slices.Compact(l)
}

// messages are such as k might be sent, valid or not.
func messages(k api.Kept) []api.Msg {
	all := append(strange(k), bases(k)...)
	there := epochsOf(k)
	for _, index := range indexes(k) {
		near := []uint32{0, 1, k.Term, there[index], there[index] - 1, there[index] + 1}
		slices.Sort(near)
		for _, prev := range slices.Compact(near) {
			for _, epoch := range []uint32{k.Term - 1, k.Term, k.Term + 1, math.MaxUint32} {
				all = append(all, api.Msg{Kind: 2, Epoch: epoch, Index: index, Prev: prev, Upto: index})
				for _, l := range entriesFor(k, index, epoch) {
					all = append(all, api.Msg{Kind: 2, Epoch: epoch, Index: index, Prev: prev, Entries: l})
				}
			}
		}
	}
	return all
}

// entriesFor are such as a message of an epoch might have after an index.
func entriesFor(k api.Kept, index uint64, epoch uint32) [][]api.Entry {
	var all [][]api.Entry
	for _, n := range []int{1, 2, 31, 32, 33} {
		all = append(all, log(n, index, epoch))
	}
	had := entriesOf(k)
	var same, unlike []api.Entry
	for i := index + 1; len(same) < 4 && had[i].Index == i && i > 0; i++ {
		same = append(same, had[i])
		// Only its epoch tells an entry.
		e := entShut(i, had[i].Epoch, 77)
		unlike = append(unlike, e)
	}
	for n := range same {
		last := same[n]
		all = append(all, same[:n+1], unlike[:n+1], append(copyOf(same[:n]), log(2, last.Index-1, epoch)...), append(copyOf(same[:n+1]), log(3, last.Index, epoch)...),
			append(copyOf(same[:n]), entShut(last.Index, last.Epoch-1, 5)), append(copyOf(same[:n]), entShut(last.Index, last.Epoch+1, 5)))
	}
	return all
}

// bases are messages with a base, or something like it.
func bases(k api.Kept) []api.Msg {
	var all []api.Msg
	for _, index := range indexes(k) {
		for _, prev := range []uint32{0, 1, k.Base.Epoch, k.Term, k.Term + 1} {
			for _, epoch := range []uint32{k.Term - 1, k.Term, k.Term + 1, math.MaxUint32} {
				b, _ := record.BaseBytes(baseAt(index, prev))
				all = append(all, api.Msg{Kind: 7, Epoch: epoch, Index: index, Prev: prev, Body: b})
			}
		}
	}
	b, _ := record.BaseBytes(baseAt(20, 3))
	empty, _ := record.BaseBytes(api.Base{})
	for _, epoch := range []uint32{0, 1, 2, 3, k.Term, k.Term + 1} {
		for _, body := range [][]byte{nil, empty, b, b[:len(b)-1], append(bytes.Clone(b), 0), {1, 20, 1, 3}} {
			for _, x := range []api.Msg{{}, {Index: 20}, {Prev: 3}, {Index: 20, Prev: 3}, {Index: 19, Prev: 3}, {Index: 21, Prev: 3}, {Index: 20, Prev: 2}, {Index: 20, Prev: 4}} {
				x.Kind, x.Epoch, x.Body = 7, epoch, body
				all = append(all, x)
			}
		}
	}
	return all
}

// strange are messages that nobody takes, of all kinds.
func strange(k api.Kept) []api.Msg {
	index, epoch := k.Base.Index, k.Term+1
	fits := api.Msg{Kind: 2, Epoch: epoch, Index: index, Prev: k.Base.Epoch, Entries: log(1, index, epoch)}
	all := []api.Msg{{}, {Kind: 1, Epoch: epoch, Index: index}, {Kind: 3, Epoch: epoch, Index: index, Is: true}, {Kind: 4, Ref: 7}, {Kind: 5, Ref: 7, Epoch: epoch, Node: 1},
		{Kind: 6, Ref: 7, Epoch: epoch, Node: 1}, {Kind: 8, Epoch: epoch}, {Kind: -1, Epoch: epoch}, {Kind: 2}, {Kind: 2, Index: index, Prev: k.Base.Epoch}, {Kind: 7}}
	for _, change := range []func(*api.Msg){
		func(m *api.Msg) { m.Epoch = 0 },
		func(m *api.Msg) { m.Epoch, m.Entries = 0, nil },
		func(m *api.Msg) { m.Epoch, m.Entries, m.Prev = 0, nil, 0 },
		func(m *api.Msg) { m.Ref = 1 },
		func(m *api.Msg) { m.Node = 1 },
		func(m *api.Msg) { m.Is = true },
		func(m *api.Msg) { m.Body = []byte{0} },
		func(m *api.Msg) { m.Body = make([]byte, api.MaxBlock+1) },
		func(m *api.Msg) { m.Entries = log(33, index, epoch) },
		func(m *api.Msg) { m.Entries[0].Index++ },
		func(m *api.Msg) { m.Entries[0].Epoch++ },
		func(m *api.Msg) { m.Entries[0].Session = api.Session{} },
		func(m *api.Msg) { m.Kind = 7 },
		func(m *api.Msg) { m.Kind = 3 },
	} {
		m := fits
		m.Entries = copyOf(m.Entries)
		change(&m)
		all = append(all, m)
	}
	return all
}

// equal reports whether all fields of a and b are equal.
func equal(a, b api.Kept) bool {
	return a.Term == b.Term && a.Own == b.Own && equalBase(a.Base, b.Base) && slices.Equal(a.Entries, b.Entries) && slices.Equal(a.Flows, b.Flows)
}

func equalBase(a, b api.Base) bool {
	return a.Index == b.Index && a.Epoch == b.Epoch && slices.Equal(a.Config.Peers, b.Config.Peers) && slices.Equal(a.Config.Routes, b.Config.Routes) &&
		slices.Equal(a.Sessions, b.Sessions) && slices.Equal(a.Refs, b.Refs)
}

func equalRecord(a, b api.Record) bool {
	same := equalBase(a.Base, b.Base)
	return same && a.Kind == b.Kind && a.Epoch == b.Epoch && a.Index == b.Index && a.Session == b.Session && a.Upto == b.Upto && a.Entry == b.Entry
}

func equalRecords(a, b []api.Record) bool {
	return slices.EqualFunc(a, b, equalRecord)
}

func equalMsg(a, b api.Msg) bool {
	same := slices.Equal(a.Entries, b.Entries) && bytes.Equal(a.Body, b.Body)
	return same && a.Kind == b.Kind && a.Epoch == b.Epoch && a.Index == b.Index && a.Prev == b.Prev && a.Upto == b.Upto && a.Ref == b.Ref && a.Node == b.Node && a.Is == b.Is
}

// noBase reports whether there is nothing in b, nor in its spare capacity.
func noBase(b api.Base) bool {
	return b.Index == 0 && b.Epoch == 0 && cap(b.Config.Peers) == 0 && cap(b.Config.Routes) == 0 && cap(b.Sessions) == 0 && cap(b.Refs) == 0
}

// nothing reports whether there is nothing in k, nor in its spare capacity.
func nothing(k api.Kept) bool {
	return k.Term == 0 && k.Own == 0 && noBase(k.Base) && cap(k.Entries) == 0 && cap(k.Flows) == 0
}

// noMsg reports whether there is nothing in m, nor in its spare capacity.
func noMsg(m api.Msg) bool {
	return equalMsg(m, api.Msg{}) && cap(m.Entries) == 0 && cap(m.Body) == 0
}

// copyOf is new memory.
func copyOf[T any](l []T) []T {
	return append([]T(nil), l...)
}

func copyBase(b api.Base) api.Base {
	b.Config = api.Config{Peers: copyOf(b.Config.Peers), Routes: copyOf(b.Config.Routes)}
	b.Sessions, b.Refs = copyOf(b.Sessions), copyOf(b.Refs)
	return b
}

func copyKept(k api.Kept) api.Kept {
	k.Base, k.Entries, k.Flows = copyBase(k.Base), copyOf(k.Entries), copyOf(k.Flows)
	return k
}
