package record_test

import (
	"math"
	"slices"

	"drawbridge/api"
)

// bytes32 are 32 bytes that are all unlike.
func bytes32(x byte) (a [32]byte) {
	for i := range a {
		a[i] = x + byte(i)*7
	}
	return a
}

// great are the numbers at which something might change.
func great() []uint64 {
	return []uint64{0, 1, 2, 3, 5, 255, 256, 1 << 32, mostCounter - 1, mostCounter, mostCounter + 1, mostCounter + 2, 1 << 61, 1 << 63, math.MaxUint64 - 1, math.MaxUint64}
}

// epochs are those at which something might change.
func epochs() []uint32 {
	return []uint32{0, 1, 2, 3, 4, 5, 6, 7, 8, 9, 10, 11, 1 << 31, math.MaxUint32 - 1, math.MaxUint32}
}

// peers are those at which something might change.
func peers() []int {
	return []int{math.MinInt, -65536, -65535, -1, 0, 1, 2, 3, 4, 65535, 65536, 65537, 131072, 1<<32 + 1, math.MaxInt}
}

// entOp is an entry with an operation.
func entOp(index uint64, epoch uint32, o api.Op) api.Entry {
	return api.Entry{Kind: 1, Epoch: epoch, Index: index, Op: o}
}

// entOpen is an entry that opens a session.
func entOpen(index uint64, epoch uint32, id uint64, peer int) api.Entry {
	return api.Entry{Kind: 2, Epoch: epoch, Index: index, Session: session(id, peer)}
}

// entShut is an entry that shuts a session.
func entShut(index uint64, epoch uint32, id uint64) api.Entry {
	return api.Entry{Kind: 3, Epoch: epoch, Index: index, Session: api.Session{ID: id}}
}

// session is one whose secret tells which one it is.
func session(id uint64, peer int) api.Session {
	return api.Session{ID: id, Peer: peer, Secret: bytes32(byte(id) + byte(peer))}
}

// flow is one of which something was used.
func flow(id uint64) api.Flow {
	return api.Flow{ID: id, Out: api.Counter{Next: 5, Leased: 16}, In: api.Window{Floor: 3, Top: 7, Seen: 0b10101, Limit: 33}}
}

// base is a base that has some of everything.
func base() api.Base {
	return api.Base{
		Index: 5,
		Epoch: 3,
		Config: api.Config{
			Peers:  []api.Member{{ID: 1, Key: bytes32(1)}, {ID: 2, Key: bytes32(2), Off: true}, {ID: 3, Key: bytes32(3)}, {ID: 65536}},
			Routes: []api.Route{{Addr: 10 << 24, Bits: 8, Peer: 1}, {Addr: 10<<24 + 1<<16, Bits: 16, Peer: 2}, {Addr: 11 << 24, Bits: 8, Peer: 3}},
		},
		Sessions: []api.Session{session(4, 1), session(7, 3), session(9, 1), session(1<<40, 77)},
		Refs:     []uint64{5, 0, 1 << 63, 9},
	}
}

// kept is a state that has some of everything.
func kept() api.Kept {
	return api.Kept{
		Term: 9,
		Own:  8,
		Base: base(),
		Entries: []api.Entry{
			entOp(6, 3, api.Op{Kind: 1, Ref: 11, ID: 7, Key: bytes32(7)}),
			entOpen(7, 4, 12, 3),
			entShut(8, 4, 4),
			entOp(9, 8, api.Op{Kind: 3, Ref: 12, ID: 1}),
			entOp(10, 8, api.Op{Kind: 4, Ref: 13, ID: 3, Addr: 12 << 24, Bits: 8}),
		},
		Flows: []api.Flow{flow(2), flow(9), {ID: 12, Out: api.Counter{Next: 1}, In: api.Window{Floor: 1, Limit: 1}}, flow(1 << 50)},
	}
}

// log are n entries after that with the index.
func log(n int, index uint64, epoch uint32) []api.Entry {
	var l []api.Entry
	for i := range n {
		l = append(l, entShut(index+uint64(i)+1, epoch, uint64(i)+1))
	}
	return l
}

// manyFlows are n flows, of each third session.
func manyFlows(n int) []api.Flow {
	var l []api.Flow
	for i := range n {
		l = append(l, flow(uint64(3*i+3)))
	}
	return l
}

// manySessions are n sessions, of each tenth ID.
func manySessions(n int) []api.Session {
	var l []api.Session
	for i := range n {
		l = append(l, session(uint64(10*i+10), i%3+1))
	}
	return l
}

// manyRefs are n Refs.
func manyRefs(n int) []uint64 {
	var l []uint64
	for i := range n {
		l = append(l, uint64(1000-i))
	}
	return l
}

// states are valid ones of all sorts.
func states() []api.Kept {
	last := api.Kept{Term: math.MaxUint32, Own: math.MaxUint32, Base: api.Base{Index: math.MaxUint64 - 2, Epoch: math.MaxUint32 - 1}}
	last.Entries = []api.Entry{entShut(math.MaxUint64-1, math.MaxUint32, 1)}
	end := copyKept(last)
	end.Entries = append(end.Entries, entShut(math.MaxUint64, math.MaxUint32, 1))
	above := api.Kept{Term: 6, Own: 6, Base: api.Base{Index: math.MaxUint64, Epoch: 6}}
	crowd := api.Kept{Term: 9, Own: 9, Base: api.Base{Index: 5, Epoch: 3, Sessions: manySessions(64), Refs: manyRefs(64)}, Entries: log(1024, 5, 3), Flows: manyFlows(1024)}
	free := copyKept(crowd)
	free.Entries, free.Flows = free.Entries[:1023], free.Flows[:1023]
	all := kept()
	all.Flows[0].Out = api.Counter{Next: mostCounter + 1, Leased: mostCounter}
	all.Flows[0].In = api.Window{Floor: mostCounter + 1, Top: mostCounter, Limit: mostCounter + 1}
	all.Flows[1].Out = api.Counter{Next: 1, Leased: mostCounter - 1}
	all.Flows[1].In = api.Window{Floor: 1, Top: mostCounter - 1, Seen: math.MaxUint64, Limit: mostCounter}
	bare := kept()
	bare.Own, bare.Flows = 0, nil
	odd := api.Kept{Base: api.Base{Refs: []uint64{7, 7}, Sessions: manySessions(2), Config: base().Config}}
	return []api.Kept{{}, {Term: 5}, {Term: 5, Own: 5}, {Term: 5, Own: 1, Flows: manyFlows(2)}, {Term: 9, Own: 8, Base: base()}, kept(), bare, all, last, end, above, crowd, free, odd,
		{Term: 3, Own: 3, Entries: []api.Entry{entShut(1, 1, 1), entShut(2, 1, 1), entShut(3, 2, 1), entShut(4, 3, 1), entShut(5, 3, 1)}}}
}

// faults are changes of which each makes kept() a state that is not valid; those of whole lists come first.
func faults() []func(*api.Kept) {
	return []func(*api.Kept){
		func(k *api.Kept) { k.Base.Sessions = manySessions(65) },
		func(k *api.Kept) { k.Base.Refs = manyRefs(65) },
		func(k *api.Kept) { k.Entries = log(1025, 5, 3) },
		func(k *api.Kept) { k.Flows = manyFlows(1025) },
		func(k *api.Kept) { k.Term = 7 },
		func(k *api.Kept) { k.Own = 10 },
		func(k *api.Kept) { k.Own = 0 },
		func(k *api.Kept) { k.Base.Index = 4 },
		func(k *api.Kept) { k.Base.Epoch = 0 },
		func(k *api.Kept) { k.Base.Epoch = 10 },
		func(k *api.Kept) { k.Base.Config.Peers[0].ID = 0 },
		func(k *api.Kept) { k.Base.Config.Routes[0].Peer = 9 },
		func(k *api.Kept) { k.Base.Sessions[0].Peer = 0 },
		func(k *api.Kept) { k.Base.Sessions[1].ID = 3 },
		func(k *api.Kept) { k.Entries[1].Epoch = 2 },
		func(k *api.Kept) { k.Entries[2].Session.ID = 0 },
		func(k *api.Kept) { k.Flows[0].ID = 10 },
		func(k *api.Kept) { k.Flows[1].Out.Next = 0 },
		func(k *api.Kept) { k.Flows[2].In.Limit = 0 },
	}
}

// faulty are states with one of the faults, or with two.
func faulty() []api.Kept {
	var all []api.Kept
	for i, one := range faults() {
		for j, other := range faults()[:i+1] {
			k := kept()
			other(&k)
			if i != j {
				one(&k)
			}
			all = append(all, k)
		}
	}
	return all
}

// equal reports whether all fields of a and b are equal.
func equal(a, b api.Kept) bool {
	return a.Term == b.Term && a.Own == b.Own && equalBase(a.Base, b.Base) && slices.Equal(a.Entries, b.Entries) && slices.Equal(a.Flows, b.Flows)
}

func equalBase(a, b api.Base) bool {
	return a.Index == b.Index && a.Epoch == b.Epoch && slices.Equal(a.Config.Peers, b.Config.Peers) && slices.Equal(a.Config.Routes, b.Config.Routes) &&
		slices.Equal(a.Sessions, b.Sessions) && slices.Equal(a.Refs, b.Refs)
}

func equalRecord(a, b api.Record) bool {
	same := equalBase(a.Base, b.Base)
	return same && a.Kind == b.Kind && a.Epoch == b.Epoch && a.Index == b.Index && a.Session == b.Session && a.Upto == b.Upto && a.Entry == b.Entry
}

// noBase reports whether there is nothing in b, nor in its spare capacity.
func noBase(b api.Base) bool {
	return b.Index == 0 && b.Epoch == 0 && cap(b.Config.Peers) == 0 && cap(b.Config.Routes) == 0 && cap(b.Sessions) == 0 && cap(b.Refs) == 0
}

// nothing reports whether there is nothing in k, nor in its spare capacity.
func nothing(k api.Kept) bool {
	return k.Term == 0 && k.Own == 0 && noBase(k.Base) && cap(k.Entries) == 0 && cap(k.Flows) == 0
}

// noRecord reports whether there is nothing in r, nor in its spare capacity.
func noRecord(r api.Record) bool {
	return len(fields(r)) == 0 && r.Kind == 0 && noBase(r.Base)
}

// put is l with x in place of what is at i.
func put[T any](l []T, i int, x T) []T {
	n := copyOf(l)
	n[i] = x
	return n
}

// lists are l with something moved, gone or there twice, and nothing. None of them is l if all in it are unlike.
func lists[T any](l []T) [][]T {
	all := [][]T{nil, append(copyOf(l), copyOf(l)...)}
	for i := range l {
		all = append(all, slices.Delete(copyOf(l), i, i+1), slices.Insert(copyOf(l), i, l[i]))
		if i > 0 {
			all = append(all, put(put(l, i, l[i-1]), i-1, l[i]), put(l, i, l[i-1]))
		}
	}
	return all
}

// changedBases are b with something changed, valid or not.
func changedBases(b api.Base) []api.Base {
	var all []api.Base
	add := func(change func(*api.Base)) {
		n := copyBase(b)
		change(&n)
		if !equalBase(n, b) {
			all = append(all, n)
		}
	}
	for _, x := range great() {
		add(func(n *api.Base) { n.Index = x })
		add(func(n *api.Base) { n.Index, n.Epoch = x, 0 })
		add(func(n *api.Base) { n.Refs = append(n.Refs, x) })
		for i := range b.Refs {
			add(func(n *api.Base) { n.Refs[i] = x })
		}
		for i := range b.Sessions {
			add(func(n *api.Base) { n.Sessions[i].ID = x })
		}
	}
	for _, x := range epochs() {
		add(func(n *api.Base) { n.Epoch = x })
		add(func(n *api.Base) { n.Index, n.Epoch = 0, x })
	}
	for i := range b.Sessions {
		for _, x := range peers() {
			add(func(n *api.Base) { n.Sessions[i].Peer = x })
		}
		add(func(n *api.Base) { n.Sessions[i].Secret[31-i]++ })
	}
	for i := range b.Config.Peers {
		for _, x := range peers() {
			add(func(n *api.Base) { n.Config.Peers[i].ID = x })
		}
		add(func(n *api.Base) { n.Config.Peers[i].Off = !n.Config.Peers[i].Off })
		add(func(n *api.Base) { n.Config.Peers[i].Key[i]++ })
	}
	for i := range b.Config.Routes {
		add(func(n *api.Base) { n.Config.Routes[i].Peer++ })
		add(func(n *api.Base) { n.Config.Routes[i].Bits++ })
		add(func(n *api.Base) { n.Config.Routes[i].Bits-- })
		add(func(n *api.Base) { n.Config.Routes[i].Addr ^= 1 << 24 })
	}
	for _, l := range lists(b.Config.Peers) {
		add(func(n *api.Base) { n.Config.Peers = l })
	}
	for _, l := range lists(b.Config.Routes) {
		add(func(n *api.Base) { n.Config.Routes = l })
	}
	for _, l := range append(lists(b.Sessions), manySessions(63), manySessions(64), manySessions(65), manySessions(66), manySessions(128)) {
		add(func(n *api.Base) { n.Sessions = l })
	}
	for _, l := range append(lists(b.Refs), manyRefs(63), manyRefs(64), manyRefs(65), manyRefs(66), manyRefs(128), make([]uint64, 64), make([]uint64, 65)) {
		add(func(n *api.Base) { n.Refs = l })
	}
	add(func(n *api.Base) { n.Sessions, n.Refs = manySessions(64), manyRefs(64) })
	add(func(n *api.Base) { *n = api.Base{} })
	return all
}

// changedStates are k with something changed, valid or not.
func changedStates(k api.Kept) []api.Kept {
	var all []api.Kept
	add := func(change func(*api.Kept)) {
		n := copyKept(k)
		change(&n)
		if !equal(n, k) {
			all = append(all, n)
		}
	}
	for _, x := range epochs() {
		add(func(n *api.Kept) { n.Term = x })
		add(func(n *api.Kept) { n.Own = x })
		add(func(n *api.Kept) { n.Own, n.Term = x, x })
		add(func(n *api.Kept) { n.Own, n.Flows = x, nil })
		for i := range k.Entries {
			add(func(n *api.Kept) { n.Entries[i].Epoch = x })
		}
	}
	for _, b := range changedBases(k.Base) {
		add(func(n *api.Kept) { n.Base = b })
	}
	for i := range k.Entries {
		for _, x := range append(great(), 6, 7, 8, 9, 10, 11) {
			add(func(n *api.Kept) { n.Entries[i].Index = x })
		}
		add(func(n *api.Kept) { n.Entries[i].Kind++ })
		add(func(n *api.Kept) { n.Entries[i].Op.Ref++ })
		add(func(n *api.Kept) { n.Entries[i].Session.Secret[0]++ })
		add(func(n *api.Kept) { n.Entries[i].Session.ID++ })
		add(func(n *api.Kept) { n.Entries[i] = api.Entry{} })
	}
	for i := range k.Flows {
		for _, x := range great() {
			add(func(n *api.Kept) { n.Flows[i].ID = x })
			add(func(n *api.Kept) { n.Flows[i].Out.Next = x })
			add(func(n *api.Kept) { n.Flows[i].Out.Leased = x })
			add(func(n *api.Kept) { n.Flows[i].In.Floor = x })
			add(func(n *api.Kept) { n.Flows[i].In.Top = x })
			add(func(n *api.Kept) { n.Flows[i].In.Seen = x })
			add(func(n *api.Kept) { n.Flows[i].In.Limit = x })
		}
	}
	for _, l := range lists(k.Entries) {
		add(func(n *api.Kept) { n.Entries = l })
	}
	for _, l := range lists(k.Flows) {
		add(func(n *api.Kept) { n.Flows = l })
	}
	for _, many := range []int{1023, 1024, 1025, 1026, 2048} {
		add(func(n *api.Kept) { n.Entries = log(many, n.Base.Index, n.Base.Epoch) })
		add(func(n *api.Kept) { n.Flows = manyFlows(many) })
	}
	add(func(n *api.Kept) { *n = api.Kept{} })
	return all
}

// records are such as might be possible in k, valid or not.
func records(k api.Kept) []api.Record {
	all := []api.Record{{}, {Kind: 3}, {Kind: 5}}
	near := append(epochs(), k.Term-1, k.Term, k.Term+1, k.Own, k.Own+1, k.Base.Epoch, k.Base.Epoch-1, k.Base.Epoch+1)
	last := k.Base.Index + uint64(len(k.Entries))
	indexes := append(great(), k.Base.Index-1, k.Base.Index, k.Base.Index+1, k.Base.Index+2, k.Base.Index+3, k.Base.Index+4, last-1, last, last+1, last+2)
	for _, x := range near {
		all = append(all, api.Record{Kind: 1, Epoch: x}, api.Record{Kind: 2, Epoch: x}, api.Record{Kind: 3, Entry: entShut(last+1, x, 1)})
		for _, index := range indexes {
			all = append(all, api.Record{Kind: 5, Base: api.Base{Index: index, Epoch: x}})
		}
	}
	for _, x := range indexes {
		all = append(all, api.Record{Kind: 4, Index: x}, api.Record{Kind: 3, Entry: entShut(x, k.Term, 1)})
		rich := base()
		rich.Index, rich.Epoch = x, k.Term
		all = append(all, api.Record{Kind: 5, Base: rich})
		for _, id := range []uint64{0, 1, 2, 3, 9, 12, 3072, 3073, 1 << 50, math.MaxUint64} {
			all = append(all, api.Record{Kind: 6, Session: id, Upto: x}, api.Record{Kind: 7, Session: id, Upto: x})
		}
	}
	for _, id := range []uint64{1, 2, 3, 9, 12} {
		for _, x := range []uint64{4, 15, 16, 17, 32, 33, 34} {
			all = append(all, api.Record{Kind: 6, Session: id, Upto: x}, api.Record{Kind: 7, Session: id, Upto: x})
		}
	}
	return all
}
