package record_test

import (
	"math"
	"math/rand"
	"slices"
	"testing"

	"drawbridge/api"
	"drawbridge/record"
)

// does checks Do of k and r against the second reading, valid or not.
func does(t *testing.T, k api.Kept, r api.Record) (api.Kept, api.Errno) {
	t.Helper()
	want, wrong := done(k, r)
	got, e := record.Do(k, r)
	if e != wrong || !equal(got, want) {
		t.Fatalf("%v\n%v:\n%v %d and not\n%v %d", k, r, got, e, want, wrong)
	}
	if e != api.OK && !nothing(got) {
		t.Fatalf("%v\n%v:\n%v beside %d", k, r, got, e)
	}
	if e == api.OK && record.Check(got) != api.OK {
		t.Fatalf("%v\n%v:\n%v is not valid", k, r, got)
	}
	return got, e
}

// did is k after all of the records, which must be possible.
func did(t *testing.T, k api.Kept, l ...api.Record) api.Kept {
	t.Helper()
	for _, r := range l {
		got, e := does(t, k, r)
		if e != api.OK {
			t.Fatalf("%v\n%v: %d", k, r, e)
		}
		k = got
	}
	return k
}

// notDid checks that r is refused.
func notDid(t *testing.T, k api.Kept, r api.Record, want api.Errno) {
	t.Helper()
	if got, e := does(t, k, r); e != want {
		t.Errorf("%v\n%v: %v %d and not %d", k, r, got, e, want)
	}
}

// The chapter's examples.
func TestExamples(t *testing.T) {
	k := did(t, record.New(), api.Record{Kind: 2, Epoch: 1}, api.Record{Kind: 3, Entry: entShut(1, 1, 5)})
	if len(k.Entries) != 1 || k.Term != 1 {
		t.Error(k)
	}
	k = did(t, k, api.Record{Kind: 6, Session: 9, Upto: 16})
	r, e := record.Recover(k)
	if f, ok := record.Flow(r, 9); e != api.OK || !ok || f.Out != (api.Counter{Next: 17, Leased: 16}) {
		t.Error(r, e)
	}
	if k = did(t, k, api.Record{Kind: 2, Epoch: 2}); len(k.Flows) != 0 {
		t.Error(k)
	}
}

// P14.1: Do

func TestDoOfTerms(t *testing.T) {
	for _, kind := range []int{1, 2} {
		k := did(t, kept(), api.Record{Kind: kind, Epoch: 10})
		if k.Term != 10 || kind == 1 && (k.Own != 8 || len(k.Flows) != 4) || kind == 2 && (k.Own != 10 || len(k.Flows) != 0) || len(k.Entries) != 5 {
			t.Error(k)
		}
		notDid(t, kept(), api.Record{Kind: kind, Epoch: 8}, api.ErrArg)
		notDid(t, kept(), api.Record{Kind: kind, Epoch: 1}, api.ErrArg)
		did(t, kept(), api.Record{Kind: kind, Epoch: math.MaxUint32})
	}
	// Term itself may be claimed, once.
	notDid(t, kept(), api.Record{Kind: 1, Epoch: 9}, api.ErrArg)
	k := did(t, kept(), api.Record{Kind: 2, Epoch: 9})
	if k.Term != 9 || k.Own != 9 || len(k.Flows) != 0 {
		t.Error(k)
	}
	notDid(t, k, api.Record{Kind: 2, Epoch: 9}, api.ErrArg)
	k = did(t, k, api.Record{Kind: 1, Epoch: 12})
	notDid(t, k, api.Record{Kind: 2, Epoch: 10}, api.ErrArg)
	notDid(t, k, api.Record{Kind: 2, Epoch: 11}, api.ErrArg)
	did(t, k, api.Record{Kind: 2, Epoch: 12})
}

func TestDoOfEntries(t *testing.T) {
	k := api.Kept{Term: 2}
	notDid(t, k, api.Record{Kind: 3, Entry: entShut(1, 3, 1)}, api.ErrArg)
	notDid(t, k, api.Record{Kind: 3, Entry: entShut(2, 1, 1)}, api.ErrArg)
	k = did(t, k, api.Record{Kind: 3, Entry: entShut(1, 1, 1)}, api.Record{Kind: 3, Entry: entShut(2, 2, 1)})
	notDid(t, k, api.Record{Kind: 3, Entry: entShut(3, 1, 1)}, api.ErrArg)
	notDid(t, k, api.Record{Kind: 3, Entry: entShut(2, 2, 1)}, api.ErrArg)
	notDid(t, k, api.Record{Kind: 3, Entry: entShut(4, 2, 1)}, api.ErrArg)
	k = did(t, k, api.Record{Kind: 3, Entry: entOp(3, 2, api.Op{Kind: 5, Ref: 7})})
	if len(k.Entries) != 3 || k.Entries[2].Op.Ref != 7 || k.Entries[0].Epoch != 1 {
		t.Error(k)
	}
	// What an entry does is not asked here.
	did(t, k, api.Record{Kind: 3, Entry: entOpen(4, 2, 1, 60000)})
	// The first one continues the base.
	b := api.Kept{Term: 9, Base: base()}
	notDid(t, b, api.Record{Kind: 3, Entry: entShut(6, 2, 1)}, api.ErrArg)
	notDid(t, b, api.Record{Kind: 3, Entry: entShut(5, 3, 1)}, api.ErrArg)
	did(t, b, api.Record{Kind: 3, Entry: entShut(6, 3, 1)})
	// None comes after the greatest Index.
	notDid(t, api.Kept{Term: 1, Base: api.Base{Index: math.MaxUint64, Epoch: 1}}, api.Record{Kind: 3, Entry: entShut(0, 1, 1)}, api.ErrArg)
	notDid(t, api.Kept{Term: 1, Base: api.Base{Index: math.MaxUint64, Epoch: 1}}, api.Record{Kind: 3, Entry: entShut(1, 1, 1)}, api.ErrArg)
}

func TestDoWithoutRoom(t *testing.T) {
	k := api.Kept{Term: 9, Own: 9, Base: base()}
	for i := range uint64(1024) {
		k = did(t, k, api.Record{Kind: 3, Entry: entShut(6+i, 3, 1)})
	}
	if len(k.Entries) != 1024 {
		t.Error(len(k.Entries))
	}
	notDid(t, k, api.Record{Kind: 3, Entry: entShut(1030, 3, 1)}, api.ErrFull)
	// What is not possible is so for that reason.
	notDid(t, k, api.Record{Kind: 3, Entry: entShut(1031, 3, 1)}, api.ErrArg)
	notDid(t, k, api.Record{Kind: 3, Entry: entShut(1029, 3, 1)}, api.ErrArg)
	notDid(t, k, api.Record{Kind: 3, Entry: entShut(1030, 2, 1)}, api.ErrArg)
	notDid(t, k, api.Record{Kind: 3, Entry: entShut(1030, 10, 1)}, api.ErrArg)
	did(t, k, api.Record{Kind: 4, Index: 1029}, api.Record{Kind: 3, Entry: entShut(1029, 4, 1)})
	n := base()
	n.Index++
	did(t, k, api.Record{Kind: 5, Base: n}, api.Record{Kind: 3, Entry: entShut(1030, 3, 1)})

	k = api.Kept{Term: 9, Own: 9}
	for i := range uint64(1024) {
		k = did(t, k, api.Record{Kind: 6 + int(i%2), Session: 2 * ((i*511)%1024 + 1), Upto: i + 2})
	}
	if len(k.Flows) != 1024 || len(slices.Compact(flowIDs(k.Flows))) != 1024 {
		t.Error(len(k.Flows))
	}
	for _, id := range []uint64{1, 3, 1025, 2049, 5000} {
		notDid(t, k, api.Record{Kind: 6, Session: id, Upto: 1}, api.ErrFull)
		notDid(t, k, api.Record{Kind: 7, Session: id, Upto: 2}, api.ErrFull)
		notDid(t, k, api.Record{Kind: 7, Session: id, Upto: 1}, api.ErrArg)
		notDid(t, k, api.Record{Kind: 6, Session: id, Upto: mostCounter + 1}, api.ErrArg)
		notDid(t, k, api.Record{Kind: 7, Session: id, Upto: mostCounter + 2}, api.ErrArg)
	}
	for _, id := range []uint64{2, 4, 1024, 2046, 2048} {
		did(t, k, api.Record{Kind: 6, Session: id, Upto: 2000}, api.Record{Kind: 7, Session: id, Upto: 2000})
	}
	did(t, k, api.Record{Kind: 2, Epoch: 10}, api.Record{Kind: 6, Session: 1, Upto: 1})
}

func TestDoOfCuts(t *testing.T) {
	k := kept()
	for index, left := range map[uint64]int{6: 0, 7: 1, 8: 2, 9: 3, 10: 4, 11: 5, 12: 5, 1 << 40: 5, math.MaxUint64: 5} {
		n := did(t, k, api.Record{Kind: 4, Index: index})
		if !slices.Equal(n.Entries, k.Entries[:left]) || !equalBase(n.Base, k.Base) || len(n.Flows) != 4 {
			t.Errorf("%d: %v", index, n)
		}
	}
	for index := range uint64(6) {
		notDid(t, k, api.Record{Kind: 4, Index: index}, api.ErrArg)
	}
	// Without entries there is nothing to remove, and nothing against it.
	did(t, api.Kept{}, api.Record{Kind: 4, Index: 1})
	did(t, api.Kept{Term: 9, Base: base()}, api.Record{Kind: 4, Index: 6})
	notDid(t, api.Kept{Term: 9, Base: base()}, api.Record{Kind: 4, Index: 5}, api.ErrArg)
	notDid(t, api.Kept{Term: 1, Base: api.Base{Index: math.MaxUint64, Epoch: 1}}, api.Record{Kind: 4, Index: math.MaxUint64}, api.ErrArg)
}

func TestDoOfBases(t *testing.T) {
	k := kept()
	at := func(index uint64, epoch uint32) api.Base {
		b := base()
		b.Index, b.Epoch, b.Refs = index, epoch, []uint64{index}
		return b
	}
	for _, x := range []struct {
		index uint64
		epoch uint32
		left  int
	}{{6, 3, 4}, {7, 4, 3}, {8, 4, 2}, {9, 8, 1}, {10, 8, 0}, {11, 8, 0}, {12, 9, 0}, {1 << 50, 1, 0}, {math.MaxUint64, 9, 0},
		// The log is another one: nothing of it remains.
		{6, 1, 0}, {6, 4, 0}, {7, 3, 0}, {8, 3, 0}, {8, 5, 0}, {9, 9, 0}, {10, 9, 0}} {
		n := did(t, k, api.Record{Kind: 5, Base: at(x.index, x.epoch)})
		if !slices.Equal(n.Entries, k.Entries[5-x.left:]) || !equalBase(n.Base, at(x.index, x.epoch)) || len(n.Flows) != 4 || n.Term != 9 || n.Own != 8 {
			t.Errorf("%v: %v", x, n)
		}
	}
	for index := range uint64(6) {
		notDid(t, k, api.Record{Kind: 5, Base: at(index, 3)}, api.ErrArg)
	}
	notDid(t, k, api.Record{Kind: 5, Base: at(6, 10)}, api.ErrArg)
	notDid(t, k, api.Record{Kind: 5, Base: at(60, 10)}, api.ErrArg)
	did(t, api.Kept{Term: 1}, api.Record{Kind: 5, Base: api.Base{Index: 1, Epoch: 1}})
	notDid(t, api.Kept{}, api.Record{Kind: 5, Base: api.Base{Index: 1, Epoch: 1}}, api.ErrArg)
}

func TestDoOfFlows(t *testing.T) {
	k := api.Kept{Term: 9, Own: 7}
	k = did(t, k, api.Record{Kind: 6, Session: 9, Upto: 16})
	if !slices.Equal(k.Flows, []api.Flow{{ID: 9, Out: api.Counter{Next: 1, Leased: 16}, In: api.Window{Floor: 1, Limit: 1}}}) {
		t.Error(k.Flows)
	}
	k = did(t, k, api.Record{Kind: 7, Session: 9, Upto: 33}, api.Record{Kind: 7, Session: 3, Upto: 2}, api.Record{Kind: 6, Session: 9, Upto: 17})
	want := []api.Flow{{ID: 3, Out: api.Counter{Next: 1}, In: api.Window{Floor: 1, Limit: 2}}, {ID: 9, Out: api.Counter{Next: 1, Leased: 17}, In: api.Window{Floor: 1, Limit: 33}}}
	if !slices.Equal(k.Flows, want) {
		t.Error(k.Flows)
	}
	for _, upto := range []uint64{1, 16, 17} {
		notDid(t, k, api.Record{Kind: 6, Session: 9, Upto: upto}, api.ErrArg)
	}
	for _, upto := range []uint64{1, 2, 32, 33} {
		notDid(t, k, api.Record{Kind: 7, Session: 9, Upto: upto}, api.ErrArg)
	}
	notDid(t, k, api.Record{Kind: 7, Session: 5, Upto: 1}, api.ErrArg)
	// What was used already stays as it is.
	k.Flows[1].Out.Next, k.Flows[1].In.Top, k.Flows[1].In.Seen = 12, 20, 1
	k = did(t, k, api.Record{Kind: 6, Session: 9, Upto: mostCounter}, api.Record{Kind: 7, Session: 9, Upto: mostCounter + 1})
	if k.Flows[1] != (api.Flow{ID: 9, Out: api.Counter{Next: 12, Leased: mostCounter}, In: api.Window{Floor: 1, Top: 20, Seen: 1, Limit: mostCounter + 1}}) {
		t.Error(k.Flows)
	}
	notDid(t, k, api.Record{Kind: 6, Session: 9, Upto: mostCounter}, api.ErrArg)
	notDid(t, k, api.Record{Kind: 7, Session: 9, Upto: mostCounter + 1}, api.ErrArg)
	// Without an epoch of its own it has none.
	for _, kind := range []int{6, 7} {
		notDid(t, api.Kept{Term: 9}, api.Record{Kind: kind, Session: 9, Upto: 16}, api.ErrArg)
		notDid(t, api.Kept{}, api.Record{Kind: kind, Session: 9, Upto: 16}, api.ErrArg)
	}
}

// The flows are of any sessions, whether there are such or not.
func TestDoKeepsFlowsInOrder(t *testing.T) {
	r := rand.New(rand.NewSource(3))
	k := api.Kept{Term: 1, Own: 1}
	for i := range 300 {
		k = did(t, k, api.Record{Kind: 6 + r.Intn(2), Session: r.Uint64()>>(r.Intn(64)) | 1, Upto: uint64(i) + 2})
	}
	if len(k.Flows) < 100 {
		t.Error(len(k.Flows))
	}
}

func TestDoOfAllEdges(t *testing.T) {
	known := map[api.Errno]int{}
	for _, k := range states() {
		for i, r := range records(k) {
			// There is no need of all in states that are great.
			if len(k.Entries) < 1000 || i%7 == 0 || r.Kind > 5 || r.Kind == 3 {
				_, e := does(t, k, r)
				known[e]++
			}
		}
	}
	if len(known) != 3 || known[api.OK] < 1000 || known[api.ErrArg] < 1000 || known[api.ErrFull] < 20 {
		t.Error(known)
	}
}

func TestDoOfWhatIsNotValid(t *testing.T) {
	some := []api.Record{{Kind: 1, Epoch: 20}, {Kind: 2, Epoch: 20}, {Kind: 3, Entry: entShut(11, 9, 1)}, {Kind: 4, Index: 8},
		{Kind: 5, Base: api.Base{Index: 20, Epoch: 3}}, {Kind: 6, Session: 9, Upto: 1 << 40}, {Kind: 7, Session: 9, Upto: 1 << 40}}
	known := map[api.Errno]int{}
	for _, k := range changedStates(kept()) {
		for _, r := range some {
			_, e := does(t, k, r)
			known[e]++
		}
	}
	if known[api.OK] < 1000 || known[api.ErrArg] < 1000 {
		t.Error(known)
	}
	for _, r := range some {
		did(t, kept(), r)
		for change := range 6 {
			n := r
			switch change {
			case 0:
				n.Epoch ^= 21
			case 1:
				n.Index ^= 9
			case 2:
				n.Session ^= 10
			case 3:
				n.Upto ^= 3 << 39
			case 4:
				n.Base.Refs = []uint64{1}
			case 5:
				n.Entry.Op.Ref = 1
			}
			if !validRecord(n) {
				notDid(t, kept(), n, api.ErrArg)
			}
		}
	}
	for _, kind := range []int{math.MinInt, -7, -1, 0, 8, 9, 1 << 40, math.MaxInt} {
		for _, r := range some {
			r.Kind = kind
			notDid(t, kept(), r, api.ErrArg)
		}
	}
	for _, b := range changedBases(base()) {
		if b.Index > 0 {
			b.Index = max(b.Index, 6)
		}
		does(t, kept(), api.Record{Kind: 5, Base: b})
	}
}

// All orders of up to four of some records.
func TestAllOrders(t *testing.T) {
	steps := []api.Record{
		{Kind: 1, Epoch: 1},
		{Kind: 1, Epoch: 2},
		{Kind: 2, Epoch: 1},
		{Kind: 2, Epoch: 2},
		{Kind: 3, Entry: entShut(1, 1, 1)},
		{Kind: 3, Entry: entShut(1, 2, 1)},
		{Kind: 3, Entry: entShut(2, 1, 1)},
		{Kind: 3, Entry: entShut(2, 2, 1)},
		{Kind: 4, Index: 1},
		{Kind: 4, Index: 2},
		{Kind: 5, Base: api.Base{Index: 1, Epoch: 1}},
		{Kind: 5, Base: api.Base{Index: 2, Epoch: 2}},
		{Kind: 6, Session: 1, Upto: 4},
		{Kind: 7, Session: 1, Upto: 4},
		{Kind: 7, Session: 2, Upto: 2},
	}
	var walk func(k api.Kept, left int)
	walk = func(k api.Kept, left int) {
		for _, r := range steps {
			if n, e := does(t, k, r); e == api.OK && left > 1 {
				walk(n, left-1)
			}
		}
	}
	walk(api.Kept{}, 4)
	walk(api.Kept{Term: 1, Own: 1, Entries: []api.Entry{entShut(1, 1, 1)}}, 4)
}
