package oplog_test

import (
	"math"
	"slices"
	"testing"

	"drawbridge/api"
	"drawbridge/oplog"
	"drawbridge/record"
	"drawbridge/wire"
)

// takes checks Take against the second reading, and that what is taken can be recorded and replied.
func takes(t *testing.T, k api.Kept, m api.Msg) ([]api.Record, api.Msg, api.Errno) {
	t.Helper()
	want, reply, f := taken(k, m)
	l, h, e := oplog.Take(k, m)
	if e != f || !equalRecords(l, want) || !equalMsg(h, reply) || e != api.OK && (cap(l) != 0 || !noMsg(h)) {
		t.Fatalf("%v\n%v: %v %v %d and not %v %v %d", k, m, l, h, e, want, reply, f)
	}
	if e != api.OK {
		return l, h, e
	}
	n, f := oplog.Have(k, l)
	if f != api.OK || wire.Check(h) != api.OK || h.Epoch != n.Term || n.Own != k.Own || !slices.Equal(n.Flows, k.Flows) {
		t.Fatalf("%v\n%v: %v %d", k, m, n, f)
	}
	if h.Is && m.Kind == 2 {
		holds(t, n, m)
	}
	return l, h, e
}

// holds checks that all of a message is there.
func holds(t *testing.T, k api.Kept, m api.Msg) {
	t.Helper()
	got := epochsOf(k)
	if epoch, there := got[m.Index]; !there || epoch != m.Prev {
		t.Fatalf("%v\n%v", k, m)
	}
	for _, e := range m.Entries {
		if got[e.Index] != e.Epoch {
			t.Fatalf("%v\n%v", k, m)
		}
	}
}

// P15.1: Take

func TestTakeOfEntries(t *testing.T) {
	all := kept().Entries
	put := func(e api.Entry) api.Record { return api.Record{Kind: 3, Entry: e} }
	term := api.Record{Kind: 1, Epoch: 12}
	cut := func(index uint64) api.Record { return api.Record{Kind: 4, Index: index} }
	is := func(index uint64) api.Msg { return api.Msg{Kind: 3, Epoch: 12, Index: index, Is: true} }
	not := func(index uint64) api.Msg { return api.Msg{Kind: 3, Epoch: 12, Index: index} }
	twelve, ten := entShut(12, 12, 4), entShut(10, 12, 5)
	eleven := entOp(11, 10, api.Op{Kind: 2, Ref: 50, ID: 1})
	for i, x := range []struct {
		m     api.Msg
		l     []api.Record
		reply api.Msg
	}{
		{api.Msg{Index: 10, Prev: 8, Entries: []api.Entry{eleven, twelve}}, []api.Record{term, put(eleven), put(twelve)}, is(12)},
		{api.Msg{Index: 10, Prev: 8, Entries: []api.Entry{eleven}, Upto: 77}, []api.Record{term, put(eleven)}, is(11)},
		{api.Msg{Index: 10, Prev: 8}, []api.Record{term}, is(10)},
		{api.Msg{Index: 7, Prev: 4}, []api.Record{term}, is(7)},
		{api.Msg{Index: 5, Prev: 3}, []api.Record{term}, is(5)},
		{api.Msg{Index: 5, Prev: 3, Entries: all}, []api.Record{term}, is(10)},
		{api.Msg{Index: 5, Prev: 3, Entries: all[:2]}, []api.Record{term}, is(7)},
		{api.Msg{Index: 8, Prev: 4, Entries: all[3:4]}, []api.Record{term}, is(9)},
		{api.Msg{Index: 8, Prev: 4, Entries: []api.Entry{entShut(9, 8, 99)}}, []api.Record{term}, is(9)},
		{api.Msg{Index: 9, Prev: 8, Entries: []api.Entry{all[4], eleven, twelve}}, []api.Record{term, put(eleven), put(twelve)}, is(12)},
		{api.Msg{Index: 8, Prev: 4, Entries: []api.Entry{all[3], ten}}, []api.Record{term, cut(10), put(ten)}, is(10)},
		{api.Msg{Index: 9, Prev: 8, Entries: []api.Entry{ten}}, []api.Record{term, cut(10), put(ten)}, is(10)},
		{api.Msg{Index: 5, Prev: 3, Entries: []api.Entry{entShut(6, 4, 1), all[1]}}, []api.Record{term, cut(6), put(entShut(6, 4, 1)), put(all[1])}, is(7)},
		{api.Msg{Index: 7, Prev: 4, Entries: []api.Entry{entShut(8, 5, 1)}}, []api.Record{term, cut(8), put(entShut(8, 5, 1))}, is(8)},
		{api.Msg{Index: 8, Prev: 4, Entries: []api.Entry{entShut(9, 5, 1), all[4], eleven}}, []api.Record{term, cut(9), put(entShut(9, 5, 1)), put(all[4]), put(eleven)}, is(11)},
		{api.Msg{Index: 0}, []api.Record{term}, not(5)},
		{api.Msg{Index: 4, Prev: 3}, []api.Record{term}, not(5)},
		{api.Msg{Index: 5, Prev: 2}, []api.Record{term}, not(5)},
		{api.Msg{Index: 6, Prev: 4}, []api.Record{term}, not(5)},
		{api.Msg{Index: 7, Prev: 3, Entries: []api.Entry{entShut(8, 4, 4)}}, []api.Record{term}, not(6)},
		{api.Msg{Index: 10, Prev: 9}, []api.Record{term}, not(9)},
		{api.Msg{Index: 11, Prev: 8, Entries: []api.Entry{twelve}}, []api.Record{term}, not(10)},
		{api.Msg{Index: 12, Prev: 12}, []api.Record{term}, not(10)},
		{api.Msg{Index: 1 << 62, Prev: 12}, []api.Record{term}, not(10)},
	} {
		x.m.Kind, x.m.Epoch = 2, 12
		l, h, e := takes(t, kept(), x.m)
		if e != api.OK || !equalRecords(l, x.l) || !equalMsg(h, x.reply) {
			t.Errorf("%d: %v %v %d and not %v %v", i, l, h, e, x.l, x.reply)
		}
		// The same, in an epoch that it knows.
		k := owned(kept(), 12)
		if l, h, e := takes(t, k, x.m); e != api.OK || !equalRecords(l, x.l[1:]) || !equalMsg(h, x.reply) {
			t.Errorf("%d: %v %v %d and not %v %v", i, l, h, e, x.l[1:], x.reply)
		}
		k = owned(kept(), 13)
		if l, h, e := takes(t, k, x.m); e != api.OK || len(l) != 0 || !equalMsg(h, api.Msg{Kind: 3, Epoch: 13}) {
			t.Errorf("%d: %v %v %d", i, l, h, e)
		}
	}
}

func TestTakeAtTheBeginning(t *testing.T) {
	for _, x := range []struct {
		m     api.Msg
		l     []api.Record
		reply api.Msg
	}{
		{api.Msg{}, nil, api.Msg{Is: true}},
		{api.Msg{Prev: 1}, nil, api.Msg{}},
		{api.Msg{Index: 1}, nil, api.Msg{}},
		{api.Msg{Index: 1, Prev: 1}, nil, api.Msg{}},
		{api.Msg{Index: 9, Prev: 1}, nil, api.Msg{}},
		{api.Msg{Entries: log(2, 0, 1)}, []api.Record{{Kind: 3, Entry: entShut(1, 1, 1)}, {Kind: 3, Entry: entShut(2, 1, 2)}}, api.Msg{Index: 2, Is: true}},
	} {
		x.m.Kind, x.m.Epoch, x.reply.Kind, x.reply.Epoch = 2, 1, 3, 1
		term := []api.Record{{Kind: 1, Epoch: 1}}
		if l, h, e := takes(t, api.Kept{}, x.m); e != api.OK || !equalRecords(l, append(term, x.l...)) || !equalMsg(h, x.reply) {
			t.Errorf("%v: %v %v %d", x.m, l, h, e)
		}
		if l, h, e := takes(t, api.Kept{Term: 1}, x.m); e != api.OK || !equalRecords(l, x.l) || !equalMsg(h, x.reply) {
			t.Errorf("%v: %v %v %d", x.m, l, h, e)
		}
	}
}

// ofBase is a message with the base of another log.
func ofBase(epoch uint32, b api.Base) api.Msg {
	body, _ := record.BaseBytes(b)
	return api.Msg{Kind: 7, Epoch: epoch, Index: b.Index, Prev: b.Epoch, Body: body}
}

func TestTakeOfABase(t *testing.T) {
	for _, index := range []uint64{1, 2, 3, 4, 5, 6, 7, 8, 9, 10, 11, 12, 1 << 40, 1 << 63, math.MaxUint64} {
		for _, prev := range []uint32{1, 3, 4, 8, 9, 12} {
			b := baseAt(index, prev)
			var l []api.Record
			reply := api.Msg{Kind: 3, Epoch: 12, Index: 5, Is: true}
			if index > 5 {
				l, reply.Index = []api.Record{{Kind: 5, Base: b}}, index
			}
			if got, h, e := takes(t, owned(kept(), 12), ofBase(12, b)); e != api.OK || !equalRecords(got, l) || !equalMsg(h, reply) {
				t.Errorf("%d %d: %v %v %d", index, prev, got, h, e)
			}
			if got, h, e := takes(t, kept(), ofBase(12, b)); e != api.OK || !equalRecords(got, append([]api.Record{{Kind: 1, Epoch: 12}}, l...)) || !equalMsg(h, reply) {
				t.Errorf("%d %d: %v %v %d", index, prev, got, h, e)
			}
			if got, h, e := takes(t, owned(kept(), 13), ofBase(12, b)); e != api.OK || len(got) != 0 || !equalMsg(h, api.Msg{Kind: 3, Epoch: 13}) {
				t.Errorf("%d %d: %v %v %d", index, prev, got, h, e)
			}
		}
	}
}

// Behind a base there is what followed the same one before.
func TestWhatIsBehindABase(t *testing.T) {
	for epoch, want := range map[uint32][]api.Entry{4: kept().Entries[3:], 3: nil, 5: nil} {
		l, _, e := takes(t, kept(), ofBase(9, baseAt(8, epoch)))
		k, f := oplog.Have(kept(), l)
		if e != api.OK || f != api.OK || !slices.Equal(k.Entries, want) || !equalBase(k.Base, baseAt(8, epoch)) {
			t.Errorf("%d: %v %d %d", epoch, k, e, f)
		}
	}
}

func TestTakeOfTooManyEntries(t *testing.T) {
	last := uint64(5)
	for _, x := range []struct {
		n, from, many int
		epoch         uint32
		want          api.Errno
	}{
		{1024, 1024, 1, 9, api.ErrFull}, {1024, 1024, 0, 9, api.OK}, {1023, 1023, 1, 9, api.OK}, {1023, 1023, 2, 9, api.ErrFull}, {1000, 1000, 24, 9, api.OK}, {1000, 1000, 25, 9, api.ErrFull},
		{1024, 1000, 24, 9, api.OK}, {1024, 1000, 25, 9, api.ErrFull}, {1024, 1000, 32, 9, api.ErrFull}, {1024, 1000, 24, 3, api.OK}, {1024, 1000, 25, 3, api.ErrFull}, {1024, 1023, 2, 3, api.ErrFull},
		{1010, 1000, 24, 9, api.OK}, {1010, 1000, 25, 9, api.ErrFull}, {1010, 1000, 24, 3, api.OK}, {1010, 1000, 25, 3, api.ErrFull}, {1024, 992, 32, 9, api.OK}, {1024, 993, 32, 9, api.ErrFull},
		{1024, 0, 32, 9, api.OK}, {992, 992, 32, 9, api.OK}, {993, 993, 32, 9, api.ErrFull},
	} {
		index := last + uint64(x.from)
		m := api.Msg{Kind: 2, Epoch: 10, Index: index, Prev: 3, Entries: log(x.many, index, x.epoch)}
		if _, _, e := takes(t, long(x.n), m); e != x.want {
			t.Errorf("%v: %d", x, e)
		}
		// What is not taken is not too much.
		m.Epoch = 9
		m.Prev = 2
		if _, h, e := takes(t, long(x.n), m); e != api.OK || h.Is {
			t.Errorf("%v: %v %d", x, h, e)
		}
		m.Prev = 3
		if l, h, e := takes(t, owned(long(x.n), 11), m); e != api.OK || h.Is || len(l) != 0 {
			t.Errorf("%v: %v %v %d", x, l, h, e)
		}
	}
}

func TestTakeOfAll(t *testing.T) {
	errs := map[api.Errno]int{}
	kinds := map[int]int{}
	known := map[bool]int{}
	for i, k := range append(states(), faulty()...) {
		for j, m := range messages(k) {
			if len(k.Entries) > 100 && (i+j)%20 > 0 {
				continue
			}
			l, h, e := takes(t, k, m)
			errs[e]++
			known[h.Is]++
			for _, r := range l {
				kinds[r.Kind]++
			}
		}
	}
	for _, e := range []api.Errno{api.OK, api.ErrArg, api.ErrBad, api.ErrFull} {
		if errs[e] < 5 {
			t.Error(errs)
		}
	}
	for _, kind := range []int{1, 3, 4, 5} {
		if kinds[kind] < 100 {
			t.Error(kinds)
		}
	}
	if known[true] < 500 || known[false] < 500 {
		t.Error(known)
	}
}

func TestErrorsOfTake(t *testing.T) {
	wrong := kept()
	wrong.Base.Epoch = 0
	good := api.Msg{Kind: 2, Epoch: 9, Index: 10, Prev: 8}
	whole := ofBase(9, baseAt(20, 3))
	change := func(m api.Msg, c func(*api.Msg)) api.Msg {
		c(&m)
		return m
	}
	for i, x := range []struct {
		k    api.Kept
		m    api.Msg
		want api.Errno
	}{
		{kept(), good, api.OK}, {kept(), whole, api.OK},
		{wrong, good, api.ErrArg}, {wrong, whole, api.ErrArg}, {wrong, change(whole, func(m *api.Msg) { m.Body = nil }), api.ErrArg},
		{wrong, change(good, func(m *api.Msg) { m.Entries = log(33, 10, 8) }), api.ErrArg},
		{kept(), change(good, func(m *api.Msg) { m.Entries = log(33, 10, 8) }), api.ErrArg},
		{kept(), change(whole, func(m *api.Msg) { m.Body = make([]byte, 1<<20+1) }), api.ErrArg},
		{kept(), change(whole, func(m *api.Msg) { m.Body = make([]byte, 1<<20) }), api.ErrBad},
		{kept(), change(good, func(m *api.Msg) { m.Epoch = 0 }), api.ErrArg}, {kept(), change(whole, func(m *api.Msg) { m.Epoch = 0 }), api.ErrArg},
		{api.Kept{}, api.Msg{Kind: 2}, api.ErrArg}, {api.Kept{}, api.Msg{Kind: 7}, api.ErrArg}, {api.Kept{}, api.Msg{Kind: 7, Epoch: 1}, api.ErrBad},
		{kept(), change(good, func(m *api.Msg) { m.Kind = 1; m.Prev = 0 }), api.ErrArg}, {kept(), change(good, func(m *api.Msg) { m.Kind = 3; m.Prev = 0 }), api.ErrArg},
		{kept(), change(good, func(m *api.Msg) { m.Entries = log(2, 11, 9) }), api.ErrArg}, {kept(), change(good, func(m *api.Msg) { m.Index = 1<<62 + 1 }), api.ErrArg},
		{kept(), change(whole, func(m *api.Msg) { m.Upto = 1 }), api.ErrArg}, {kept(), change(whole, func(m *api.Msg) { m.Ref = 1 }), api.ErrArg},
		{kept(), change(whole, func(m *api.Msg) { m.Index = 19 }), api.ErrBad}, {kept(), change(whole, func(m *api.Msg) { m.Index = 0 }), api.ErrBad},
		{kept(), change(whole, func(m *api.Msg) { m.Prev = 4 }), api.ErrBad}, {kept(), change(whole, func(m *api.Msg) { m.Prev = 0 }), api.ErrBad},
		{kept(), ofBase(9, baseAt(20, 9)), api.OK}, {kept(), ofBase(9, baseAt(20, 10)), api.ErrBad}, {kept(), ofBase(10, baseAt(20, 10)), api.OK}, {kept(), ofBase(9, baseAt(3, 10)), api.ErrBad},
		{kept(), ofBase(3, baseAt(20, 3)), api.OK}, {kept(), ofBase(2, baseAt(20, 3)), api.ErrBad}, {kept(), change(whole, func(m *api.Msg) { m.Epoch = 8; m.Body = nil }), api.ErrBad},
		{kept(), change(whole, func(m *api.Msg) { m.Body = nil }), api.ErrBad}, {kept(), change(whole, func(m *api.Msg) { m.Body = m.Body[1:] }), api.ErrBad},
		{kept(), ofBase(9, api.Base{}), api.ErrBad}, {kept(), ofBase(9, api.Base{Refs: []uint64{7}}), api.ErrBad}, {api.Kept{}, ofBase(9, api.Base{Refs: []uint64{7}}), api.ErrBad},
	} {
		if _, _, e := takes(t, x.k, x.m); e != x.want {
			t.Errorf("%d: %v: %d and not %d", i, x.m, e, x.want)
		}
	}
}

// Taking a message again changes nothing, and has the same reply.
func TestTakeTwice(t *testing.T) {
	for _, k := range states() {
		for i, m := range messages(k) {
			if i%3 > 0 || len(k.Entries) > 100 && i%30 > 0 {
				continue
			}
			l, h, e := oplog.Take(k, m)
			if e != api.OK {
				continue
			}
			n, _ := oplog.Have(k, l)
			if l, again, e := takes(t, n, m); e != api.OK || len(l) != 0 || !equalMsg(again, h) {
				t.Fatalf("%v\n%v: %v %v and not %v, %d", k, m, l, again, h, e)
			}
		}
	}
}
