package oplog_test

import (
	"math"
	"testing"

	"drawbridge/api"
	"drawbridge/oplog"
	"drawbridge/record"
)

// hasState checks State and Compact against the second reading.
func hasState(t *testing.T, k api.Kept, index uint64) (api.Base, api.Errno) {
	t.Helper()
	want, f := stateOf(k, index)
	b, e := oplog.State(k, index)
	if e != f || !equalBase(b, want) || e != api.OK && !noBase(b) {
		t.Fatalf("%v\n%d: %v %d and not %v %d", k, index, b, e, want, f)
	}
	l, f := compacted(k, index)
	got, e := oplog.Compact(k, index)
	if e != f || !equalRecords(got, l) || len(l) == 0 && cap(got) != 0 {
		t.Fatalf("%v\n%d: %v %d and not %v %d", k, index, got, e, l, f)
	}
	return b, e
}

// has checks Have against the second reading.
func has(t *testing.T, k api.Kept, l []api.Record) (api.Kept, api.Errno) {
	t.Helper()
	want, f := hadOf(k, l)
	n, e := oplog.Have(k, l)
	if e != f || !equal(n, want) || e != api.OK && !nothing(n) {
		t.Fatalf("%v\n%v: %v %d and not %v %d", k, l, n, e, want, f)
	}
	return n, e
}

// isPrefix checks Prefix against the second reading, both ways round.
func isPrefix(t *testing.T, a, b api.Kept, index uint64, want bool) {
	t.Helper()
	if got := oplog.Prefix(a, b, index); got != want || got != prefixOf(a, b, index) || got != oplog.Prefix(b, a, index) {
		t.Fatalf("%v\n%v\n%d: %t", a, b, index, got)
	}
}

// P15.2: State and Compact

func TestState(t *testing.T) {
	at := func(index uint64, epoch uint32, change func(*api.Base)) api.Base {
		b := baseAt(index, epoch)
		b.Refs = append(b.Refs, 11)
		b.Config.Peers = append(b.Config.Peers[:3:3], api.Member{ID: 7, Key: bytes32(7)}, api.Member{ID: 65536})
		change(&b)
		return b
	}
	for index, want := range map[uint64]api.Base{
		5: base(),
		6: at(6, 3, func(*api.Base) {}),
		7: at(7, 4, func(b *api.Base) {
			b.Sessions = []api.Session{session(4, 1), session(7, 3), session(9, 1), session(12, 3), session(1<<40, 77)}
		}),
		8: at(8, 4, func(b *api.Base) {
			b.Sessions = []api.Session{session(7, 3), session(9, 1), session(12, 3), session(1<<40, 77)}
		}),
		9: at(9, 8, func(b *api.Base) {
			b.Sessions = []api.Session{session(7, 3), session(12, 3), session(1<<40, 77)}
			b.Refs = append(b.Refs, 12)
			b.Config.Peers, b.Config.Routes = b.Config.Peers[1:], b.Config.Routes[1:]
		}),
		10: at(10, 8, func(b *api.Base) {
			b.Sessions = []api.Session{session(7, 3), session(12, 3), session(1<<40, 77)}
			b.Refs = append(b.Refs, 12, 13)
			b.Config.Peers = b.Config.Peers[1:]
			b.Config.Routes = append(b.Config.Routes[1:], api.Route{Addr: 12 << 24, Bits: 8, Peer: 3})
		}),
	} {
		if b, e := hasState(t, kept(), index); e != api.OK || !equalBase(b, want) {
			t.Errorf("%d: %v %d and not %v", index, b, e, want)
		}
	}
	for _, index := range []uint64{0, 1, 4, 11, 12, 1 << 32, 1<<32 + 7, math.MaxUint64} {
		if b, e := hasState(t, kept(), index); e != api.ErrNone || !noBase(b) {
			t.Errorf("%d: %v %d", index, b, e)
		}
	}
	if b, e := oplog.State(api.Kept{}, 0); e != api.OK || !noBase(b) {
		t.Error(b, e)
	}
	if b, e := oplog.State(api.Kept{}, 1); e != api.ErrNone || !noBase(b) {
		t.Error(b, e)
	}
}

func TestStateOfAll(t *testing.T) {
	known := map[api.Errno]int{}
	for i, k := range append(states(), faulty()...) {
		for j, index := range indexes(k) {
			if len(k.Entries) > 100 && (i+j)%3 > 0 {
				continue
			}
			_, e := hasState(t, k, index)
			known[e]++
		}
	}
	for _, e := range []api.Errno{api.OK, api.ErrArg, api.ErrNone} {
		if known[e] < 50 {
			t.Error(known)
		}
	}
}

// A state that is not valid comes before an index that is not there.
func TestErrorsOfState(t *testing.T) {
	for _, k := range faulty() {
		for _, index := range []uint64{0, 4, 5, 7, 10, 11, math.MaxUint64} {
			if _, e := hasState(t, k, index); e != api.ErrArg {
				t.Errorf("%v %d: %d", k, index, e)
			}
		}
	}
}

func TestCompact(t *testing.T) {
	for index := uint64(5); index <= 10; index++ {
		l, e := oplog.Compact(kept(), index)
		b, f := oplog.State(kept(), index)
		if index == 5 && (len(l) != 0 || e != api.OK) {
			t.Error(l, e)
		}
		if index > 5 && (e != api.OK || f != api.OK || !equalRecords(l, []api.Record{{Kind: api.RecBase, Base: b}})) {
			t.Errorf("%d: %v %d", index, l, e)
		}
		k, e := oplog.Have(kept(), l)
		if e != api.OK || k.Base.Index != index || len(k.Entries) != int(10-index) || !oplog.Prefix(k, kept(), index) || !oplog.Prefix(k, kept(), 10) {
			t.Errorf("%d: %v %d", index, k, e)
		}
	}
	for _, index := range []uint64{0, 4, 11, math.MaxUint64} {
		if l, e := oplog.Compact(kept(), index); e != api.ErrNone || cap(l) != 0 {
			t.Errorf("%d: %v %d", index, l, e)
		}
	}
	if l, e := oplog.Compact(api.Kept{}, 0); e != api.OK || cap(l) != 0 {
		t.Error(l, e)
	}
}

// An operation that changes nothing makes a base all the same.
func TestCompactOfNothingNew(t *testing.T) {
	k := api.Kept{Term: 3, Base: api.Base{Index: 7, Epoch: 3}, Entries: []api.Entry{entShut(8, 3, 1), entShut(9, 3, 1)}}
	for index := uint64(8); index <= 9; index++ {
		l, e := oplog.Compact(k, index)
		if e != api.OK || !equalRecords(l, []api.Record{{Kind: 5, Base: api.Base{Index: index, Epoch: 3}}}) {
			t.Errorf("%d: %v %d", index, l, e)
		}
	}
}

// P15.2: Have

func TestHave(t *testing.T) {
	put := func(e api.Entry) api.Record { return api.Record{Kind: 3, Entry: e} }
	one, two := entShut(1, 1, 5), entShut(2, 2, 6)
	for i, x := range []struct {
		k    api.Kept
		l    []api.Record
		want api.Kept
		e    api.Errno
	}{
		{api.Kept{}, nil, api.Kept{}, api.OK},
		{kept(), nil, kept(), api.OK},
		{api.Kept{}, []api.Record{{Kind: 2, Epoch: 1}}, api.Kept{Term: 1, Own: 1}, api.OK},
		{api.Kept{}, []api.Record{{Kind: 2, Epoch: 1}, put(one), {Kind: 1, Epoch: 2}, put(two)}, api.Kept{Term: 2, Own: 1, Entries: []api.Entry{one, two}}, api.OK},
		{api.Kept{}, []api.Record{{Kind: 2, Epoch: 2}, put(one), put(two), {Kind: 4, Index: 2}}, api.Kept{Term: 2, Own: 2, Entries: []api.Entry{one}}, api.OK},
		{api.Kept{}, []api.Record{{Kind: 2, Epoch: 2}, put(one), put(two), {Kind: 5, Base: api.Base{Index: 1, Epoch: 1}}}, api.Kept{Term: 2, Own: 2, Base: api.Base{Index: 1, Epoch: 1}, Entries: []api.Entry{two}}, api.OK},
		{api.Kept{}, []api.Record{put(one)}, api.Kept{}, api.ErrArg},
		{api.Kept{}, []api.Record{{Kind: 2, Epoch: 1}, put(two)}, api.Kept{}, api.ErrArg},
		{api.Kept{}, []api.Record{{Kind: 2, Epoch: 1}, {Kind: 2, Epoch: 1}}, api.Kept{}, api.ErrArg},
		{api.Kept{}, []api.Record{{}, {Kind: 2, Epoch: 1}}, api.Kept{}, api.ErrArg},
		{long(1024), []api.Record{put(entShut(1030, 9, 1))}, api.Kept{}, api.ErrFull},
		{long(1023), []api.Record{put(entShut(1029, 9, 1)), put(entShut(1030, 9, 1))}, api.Kept{}, api.ErrFull},
		{long(1023), []api.Record{put(entShut(1029, 9, 1)), put(entShut(1030, 9, 1)), {}}, api.Kept{}, api.ErrFull},
		{long(1023), []api.Record{put(entShut(1029, 9, 1)), {}, put(entShut(1030, 9, 1))}, api.Kept{}, api.ErrArg},
		{long(1024), []api.Record{{Kind: 4, Index: 1029}, put(entShut(1029, 3, 1024))}, long(1024), api.OK},
	} {
		if k, e := has(t, x.k, x.l); e != x.e || !equal(k, x.want) {
			t.Errorf("%d: %v %d and not %v %d", i, k, e, x.want, x.e)
		}
	}
}

func TestHaveOfFaultyStates(t *testing.T) {
	for _, k := range faulty() {
		for _, l := range [][]api.Record{nil, {}, {{Kind: 1, Epoch: 70}}, {{Kind: 2, Epoch: 70}}, {{}}, {{Kind: 4, Index: 6}}} {
			if _, e := has(t, k, l); e != api.ErrArg {
				t.Errorf("%v\n%v: %d", k, l, e)
			}
		}
	}
}

func TestHaveOfAll(t *testing.T) {
	for _, k := range states() {
		for _, l := range [][]api.Record{nil, {}, {{Kind: 1, Epoch: 70}}, {{Kind: 1, Epoch: 70}, {Kind: 2, Epoch: 71}}, {{Kind: 2, Epoch: 72}, {Kind: 6, Session: 5, Upto: 9}, {Kind: 7, Session: 5, Upto: 9}},
			{{Kind: 4, Index: k.Base.Index + 1}, {Kind: 1, Epoch: k.Term + 1}, {Kind: 3, Entry: entShut(k.Base.Index+1, k.Term+1, 1)}}, {{Kind: 4, Index: k.Base.Index + 1}, {Kind: 4, Index: k.Base.Index}}} {
			has(t, k, l)
		}
	}
}

// P15.2: Prefix

func TestPrefix(t *testing.T) {
	a := kept()
	for index := uint64(0); index <= 12; index++ {
		isPrefix(t, a, a, index, index >= 5 && index <= 10)
	}
	isPrefix(t, a, a, math.MaxUint64, false)
	isPrefix(t, a, a, 1<<32+7, false)
	isPrefix(t, api.Kept{}, api.Kept{}, 0, true)
	isPrefix(t, api.Kept{}, api.Kept{}, 1, false)
	isPrefix(t, api.Kept{}, a, 0, false)
	isPrefix(t, api.Kept{}, a, 5, false)
	// What else they have does not count.
	b := owned(kept(), 77)
	b.Flows = nil
	for index := uint64(5); index <= 10; index++ {
		isPrefix(t, a, b, index, true)
	}
}

func TestPrefixOfShorterOnes(t *testing.T) {
	a := kept()
	for n := range 6 {
		b := kept()
		b.Entries = b.Entries[:n]
		for index := uint64(4); index <= 11; index++ {
			isPrefix(t, a, b, index, index >= 5 && index <= uint64(5+n))
		}
	}
}

func TestPrefixOfUnlikeEntries(t *testing.T) {
	a := kept()
	for i := range a.Entries {
		for _, change := range []func(*api.Entry){
			func(e *api.Entry) { *e = entShut(e.Index, e.Epoch, 77) },
			func(e *api.Entry) { *e = entOpen(e.Index, e.Epoch, 5, 77) },
			func(e *api.Entry) { *e = entOp(e.Index, e.Epoch, api.Op{Kind: 5, Ref: 5}) },
		} {
			b := kept()
			change(&b.Entries[i])
			for index := uint64(4); index <= 11; index++ {
				isPrefix(t, a, b, index, index >= 5 && index <= uint64(5+i))
			}
		}
	}
	b := kept()
	b.Entries[4].Epoch = 9
	isPrefix(t, a, b, 10, false)
	isPrefix(t, a, b, 9, true)
}

func TestPrefixOfUnlikeBases(t *testing.T) {
	a := kept()
	for _, change := range []func(*api.Base){
		func(b *api.Base) { b.Epoch = 2 },
		func(b *api.Base) { b.Refs[0]++ },
		func(b *api.Base) { b.Refs = b.Refs[1:] },
		func(b *api.Base) { b.Sessions[1].Secret[0]++ },
		func(b *api.Base) { b.Sessions[1].Peer = 77 },
		func(b *api.Base) { b.Sessions = append(b.Sessions, session(1<<41, 1<<9)) },
		func(b *api.Base) { b.Config.Peers[0].Key[5]++ },
		func(b *api.Base) { b.Config.Routes[2].Addr += 1 << 24 },
	} {
		b := kept()
		change(&b.Base)
		isPrefix(t, a, b, 5, false)
		isPrefix(t, a, b, 6, b.Base.Epoch == 2)
	}
}

// A base that leads to the same state is as good as its entries.
func TestPrefixOfBases(t *testing.T) {
	a := kept()
	for i := uint64(5); i <= 10; i++ {
		for j := uint64(5); j <= 10; j++ {
			l, _ := oplog.Compact(a, i)
			r, _ := oplog.Compact(a, j)
			b, _ := oplog.Have(a, l)
			c, _ := oplog.Have(a, r)
			for index := uint64(4); index <= 11; index++ {
				isPrefix(t, b, c, index, index >= max(i, j) && index <= 10)
			}
		}
	}
	// The base of one of them may come of other entries than the other one has, if they come to the same.
	b, c := kept(), kept()
	b.Entries[2] = entShut(8, 4, 5)
	c.Entries[2] = entShut(8, 4, 77)
	x, _ := oplog.State(c, 8)
	c, _ = oplog.Have(c, []api.Record{{Kind: 5, Base: x}})
	isPrefix(t, b, c, 7, false)
	isPrefix(t, b, c, 8, true)
	isPrefix(t, b, c, 10, true)
	c.Base.Refs[0]++
	isPrefix(t, b, c, 8, false)
	isPrefix(t, b, c, 10, false)
}

// Two entries that have no effect lead to the same state, but are not the same.
func TestPrefixOfEntriesOfTheSameEffect(t *testing.T) {
	a := api.Kept{Term: 3, Entries: []api.Entry{entShut(1, 1, 5), entShut(2, 1, 5)}}
	b := api.Kept{Term: 3, Entries: []api.Entry{entShut(1, 1, 6), entShut(2, 1, 5)}}
	for index := range uint64(4) {
		isPrefix(t, a, a, index, index < 3)
		isPrefix(t, a, b, index, index == 0)
	}
}

func TestPrefixOfFaultyStates(t *testing.T) {
	for _, k := range faulty() {
		for _, index := range []uint64{0, 4, 5, 6, 10, 11} {
			isPrefix(t, k, kept(), index, false)
			isPrefix(t, k, k, index, false)
			isPrefix(t, k, api.Kept{}, index, false)
		}
	}
}

func TestPrefixOfAll(t *testing.T) {
	known := map[bool]int{}
	all := states()
	for i, a := range all {
		for j, b := range all {
			if len(a.Entries)+len(b.Entries) > 200 && (i+j)%4 > 0 {
				continue
			}
			for _, index := range []uint64{0, 1, 4, 5, 6, 10, 36, a.Base.Index, b.Base.Index, a.Base.Index + uint64(len(a.Entries)), b.Base.Index + uint64(len(b.Entries))} {
				want := prefixOf(a, b, index)
				isPrefix(t, a, b, index, want)
				known[want]++
			}
		}
	}
	if known[true] < 200 || known[false] < 200 {
		t.Error(known)
	}
}

// The state at an index is the base that is kept there, and Same of what both have.
func TestStateIsTheBase(t *testing.T) {
	for index := uint64(6); index <= 10; index++ {
		b, _ := oplog.State(kept(), index)
		k, e := record.Do(kept(), api.Record{Kind: 5, Base: b})
		again, f := oplog.State(k, index)
		end, g := oplog.State(k, 10)
		want, _ := oplog.State(kept(), 10)
		if e != api.OK || f != api.OK || g != api.OK || !equalBase(again, b) || !equalBase(end, want) {
			t.Errorf("%d: %v %v %d %d %d", index, again, end, e, f, g)
		}
	}
}
