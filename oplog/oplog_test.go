package oplog_test

import (
	"bytes"
	"math"
	"testing"

	"drawbridge/api"
	"drawbridge/oplog"
	"drawbridge/record"
)

// appends checks Append against the second reading.
func appends(t *testing.T, k api.Kept, x api.Entry) api.Errno {
	t.Helper()
	want, f := appended(k, x)
	l, e := oplog.Append(k, x)
	if e != f || !equalRecords(l, want) || e != api.OK && cap(l) != 0 {
		t.Fatalf("%v\n%v: %v %d and not %v %d", k, x, l, e, want, f)
	}
	return e
}

// sends checks Send against the second reading.
func sends(t *testing.T, k api.Kept, from uint64, most int, upto uint64) (api.Msg, api.Errno) {
	t.Helper()
	want, f := sent(k, from, most, upto)
	m, e := oplog.Send(k, from, most, upto)
	if e != f || !equalMsg(m, want) || e != api.OK && !noMsg(m) {
		t.Fatalf("%v\n%d %d %d: %v %d and not %v %d", k, from, most, upto, m, e, want, f)
	}
	return m, e
}

func isLast(t *testing.T, k api.Kept, index uint64, epoch uint32) {
	t.Helper()
	if i, e := oplog.Last(k); i != index || e != epoch {
		t.Errorf("%v: %d %d and not %d %d", k, i, e, index, epoch)
	}
}

func isAt(t *testing.T, k api.Kept, index uint64, epoch uint32, there bool) {
	t.Helper()
	if e, is := oplog.At(k, index); e != epoch || is != there {
		t.Errorf("%v: %d at %d, %t", k, e, index, is)
	}
}

// The chapter's examples

func TestExamples(t *testing.T) {
	op := api.Op{Kind: 1, Ref: 4, ID: 7}
	a, _ := record.Do(record.New(), api.Record{Kind: 2, Epoch: 1})
	l, e := oplog.Append(a, api.Entry{Kind: 1, Op: op})
	if e != api.OK || !equalRecords(l, []api.Record{{Kind: 3, Entry: api.Entry{Kind: 1, Epoch: 1, Index: 1, Op: op}}}) {
		t.Error(l, e)
	}
	a, _ = oplog.Have(a, l)
	m, e := oplog.Send(a, 0, 9, 0)
	r, h, f := oplog.Take(record.New(), m)
	if e != api.OK || f != api.OK || !equalRecords(r, []api.Record{{Kind: 1, Epoch: 1}, l[0]}) || !equalMsg(h, api.Msg{Kind: 3, Epoch: 1, Index: 1, Is: true}) {
		t.Error(m, r, h, e, f)
	}
	k := api.Kept{Term: 2, Entries: log(3, 0, 1)}
	r, h, e = oplog.Take(k, api.Msg{Kind: 2, Epoch: 2, Index: 5, Prev: 1})
	if e != api.OK || len(r) != 0 || !equalMsg(h, api.Msg{Kind: 3, Epoch: 2, Index: 3}) {
		t.Error(r, h, e)
	}
}

// P15.1: Last, At, Append and Send

func TestLast(t *testing.T) {
	isLast(t, api.Kept{}, 0, 0)
	isLast(t, api.Kept{Term: 7, Own: 7}, 0, 0)
	isLast(t, api.Kept{Term: 7, Base: api.Base{Index: 5, Epoch: 3}}, 5, 3)
	isLast(t, kept(), 10, 8)
	isLast(t, api.Kept{Term: 4, Entries: []api.Entry{entShut(1, 2, 1)}}, 1, 2)
	isLast(t, long(1024), 1029, 3)
	isLast(t, api.Kept{Term: 4, Base: api.Base{Index: math.MaxUint64 - 1, Epoch: 3}, Entries: []api.Entry{entShut(math.MaxUint64, 4, 1)}}, math.MaxUint64, 4)
	for _, k := range states() {
		index, epoch := lastOf(k)
		isLast(t, k, index, epoch)
	}
	for _, k := range faulty() {
		isLast(t, k, 0, 0)
	}
}

func TestAt(t *testing.T) {
	isAt(t, api.Kept{}, 0, 0, true)
	isAt(t, api.Kept{}, 1, 0, false)
	isAt(t, api.Kept{Term: 9}, math.MaxUint64, 0, false)
	for index, epoch := range []uint32{5: 3, 6: 3, 7: 4, 8: 4, 9: 8, 10: 8} {
		isAt(t, kept(), uint64(index), epoch, index >= 5)
	}
	isAt(t, kept(), 11, 0, false)
	isAt(t, kept(), 1<<63, 0, false)
	isAt(t, kept(), 1<<32+6, 0, false)
	isAt(t, kept(), math.MaxUint64, 0, false)
	isAt(t, api.Kept{Term: 9, Base: api.Base{Index: 5, Epoch: 3}}, 5, 3, true)
	for _, k := range states() {
		for _, index := range indexes(k) {
			epoch, there := atOf(k, index)
			isAt(t, k, index, epoch, there)
		}
	}
	for _, k := range faulty() {
		for _, index := range indexes(k) {
			isAt(t, k, index, 0, false)
		}
	}
}

// entries are such as might be appended, valid or not.
func entries() []api.Entry {
	var all []api.Entry
	for kind := -1; kind < 6; kind++ {
		all = append(all, api.Entry{Kind: kind}, api.Entry{Kind: kind, Op: api.Op{Kind: 1, Ref: 7, ID: 9, Key: bytes32(9)}},
			api.Entry{Kind: kind, Op: api.Op{Kind: 6, Ref: 7, ID: 9}}, api.Entry{Kind: kind, Session: api.Session{ID: 9}},
			api.Entry{Kind: kind, Session: session(9, 1)}, api.Entry{Kind: kind, Session: session(0, 1)}, api.Entry{Kind: kind, Session: session(9, 65537)},
			api.Entry{Kind: kind, Op: api.Op{Kind: 2, Ref: 7, ID: 9}, Session: session(9, 1)})
	}
	for _, e := range copyOf(all) {
		for _, index := range []uint64{1, 11, math.MaxUint64} {
			e.Index, e.Epoch = index, uint32(index)
			all = append(all, e)
		}
	}
	return all
}

func TestAppend(t *testing.T) {
	op := api.Op{Kind: 1, Ref: 77, ID: 9, Key: bytes32(9)}
	for _, x := range []struct {
		k    api.Kept
		e    api.Entry
		want api.Entry
	}{
		{kept(), api.Entry{Kind: 1, Op: op}, api.Entry{Kind: 1, Epoch: 9, Index: 11, Op: op}},
		{kept(), api.Entry{Kind: 1, Epoch: 77, Index: 88, Op: op}, api.Entry{Kind: 1, Epoch: 9, Index: 11, Op: op}},
		{kept(), api.Entry{Kind: 2, Session: session(12, 3)}, api.Entry{Kind: 2, Epoch: 9, Index: 11, Session: session(12, 3)}},
		{kept(), api.Entry{Kind: 3, Session: api.Session{ID: 7}}, api.Entry{Kind: 3, Epoch: 9, Index: 11, Session: api.Session{ID: 7}}},
		{api.Kept{Term: 1, Own: 1}, api.Entry{Kind: 3, Session: api.Session{ID: 7}}, entShut(1, 1, 7)},
		{api.Kept{Term: 7, Own: 7, Base: api.Base{Index: 5, Epoch: 3}}, api.Entry{Kind: 3, Session: api.Session{ID: 7}}, entShut(6, 7, 7)},
		{long(1023), api.Entry{Kind: 3, Session: api.Session{ID: 7}}, entShut(1029, 9, 7)},
	} {
		l, e := oplog.Append(x.k, x.e)
		if e != api.OK || !equalRecords(l, []api.Record{{Kind: api.RecEntry, Entry: x.want}}) {
			t.Errorf("%v: %v %d and not %v", x.e, l, e, x.want)
		}
		if k, e := record.Do(x.k, l[0]); e != api.OK || k.Entries[len(x.k.Entries)] != x.want {
			t.Errorf("%v: %v %d", x.e, k, e)
		}
	}
}

func TestAppendOfAll(t *testing.T) {
	known := map[api.Errno]int{}
	for _, k := range append(states(), faulty()...) {
		for _, e := range entries() {
			known[appends(t, k, e)]++
		}
	}
	for _, e := range []api.Errno{api.OK, api.ErrArg, api.ErrState, api.ErrFull} {
		if known[e] < 10 {
			t.Error(known)
		}
	}
}

func TestErrorsOfAppend(t *testing.T) {
	good, bad := entShut(0, 0, 7), entShut(0, 0, 0)
	wrong := kept()
	wrong.Flows[0].ID = 0
	full, stale := long(1024), long(1024)
	stale.Own = 8
	idle := long(1024)
	idle.Own = 0
	off := api.Kept{Own: 1}
	end := api.Kept{Term: 9, Own: 9, Base: api.Base{Index: math.MaxUint64, Epoch: 9}}
	for _, x := range []struct {
		k    api.Kept
		e    api.Entry
		want api.Errno
	}{
		{wrong, good, api.ErrArg}, {off, good, api.ErrArg}, {stale, bad, api.ErrState}, {stale, good, api.ErrState}, {idle, bad, api.ErrState}, {idle, good, api.ErrState},
		{api.Kept{}, good, api.ErrState}, {api.Kept{Term: 1}, good, api.ErrState}, {api.Kept{Term: 2, Own: 1}, good, api.ErrState}, {full, bad, api.ErrArg}, {full, good, api.ErrFull},
		{long(1023), bad, api.ErrArg}, {long(1023), good, api.OK}, {end, good, api.ErrArg},
	} {
		if e := appends(t, x.k, x.e); e != x.want {
			t.Errorf("%v: %d and not %d", x.e, e, x.want)
		}
	}
}

func TestSend(t *testing.T) {
	b, _ := record.BaseBytes(base())
	all := kept().Entries
	for _, x := range []struct {
		from uint64
		most int
		upto uint64
		want api.Msg
	}{
		{0, 9, 7, api.Msg{Kind: 7, Epoch: 9, Index: 5, Prev: 3, Body: b}},
		{4, 1, 0, api.Msg{Kind: 7, Epoch: 9, Index: 5, Prev: 3, Body: b}},
		{5, 9, 7, api.Msg{Kind: 2, Epoch: 9, Index: 5, Prev: 3, Upto: 7, Entries: all}},
		{5, 5, 0, api.Msg{Kind: 2, Epoch: 9, Index: 5, Prev: 3, Entries: all}},
		{5, 4, 0, api.Msg{Kind: 2, Epoch: 9, Index: 5, Prev: 3, Entries: all[:4]}},
		{5, 1, math.MaxUint64, api.Msg{Kind: 2, Epoch: 9, Index: 5, Prev: 3, Upto: math.MaxUint64, Entries: all[:1]}},
		{5, 0, 1, api.Msg{Kind: 2, Epoch: 9, Index: 5, Prev: 3, Upto: 1, Entries: all[:1]}},
		{5, -1, 1, api.Msg{Kind: 2, Epoch: 9, Index: 5, Prev: 3, Upto: 1, Entries: all[:1]}},
		{5, math.MinInt, 1, api.Msg{Kind: 2, Epoch: 9, Index: 5, Prev: 3, Upto: 1, Entries: all[:1]}},
		{6, 2, 1, api.Msg{Kind: 2, Epoch: 9, Index: 6, Prev: 3, Upto: 1, Entries: all[1:3]}},
		{7, 32, 1, api.Msg{Kind: 2, Epoch: 9, Index: 7, Prev: 4, Upto: 1, Entries: all[2:]}},
		{9, math.MaxInt, 1, api.Msg{Kind: 2, Epoch: 9, Index: 9, Prev: 8, Upto: 1, Entries: all[4:]}},
		{10, 9, 1, api.Msg{Kind: 2, Epoch: 9, Index: 10, Prev: 8, Upto: 1}},
		{10, 0, 10, api.Msg{Kind: 2, Epoch: 9, Index: 10, Prev: 8, Upto: 10}},
	} {
		m, e := sends(t, kept(), x.from, x.most, x.upto)
		if e != api.OK || !equalMsg(m, x.want) {
			t.Errorf("%d %d %d: %v %d and not %v", x.from, x.most, x.upto, m, e, x.want)
		}
	}
	if m, e := oplog.Send(api.Kept{Term: 1, Own: 1}, 0, 9, 0); e != api.OK || !equalMsg(m, api.Msg{Kind: 2, Epoch: 1}) {
		t.Error(m, e)
	}
}

func TestSendOfMany(t *testing.T) {
	for _, most := range []int{math.MinInt, -5, 0, 1, 2, 31, 32, 33, 64, 1024, math.MaxInt} {
		want := min(max(most, 1), 32)
		m, e := sends(t, long(1024), 100, most, 3)
		if e != api.OK || len(m.Entries) != want || m.Entries[0].Index != 101 || m.Entries[want-1].Index != uint64(100+want) {
			t.Errorf("%d: %v %d", most, m, e)
		}
	}
}

func TestSendOfAll(t *testing.T) {
	known := map[api.Errno]int{}
	kinds := map[int]int{}
	for _, k := range append(states(), faulty()...) {
		for _, from := range indexes(k) {
			for _, most := range []int{math.MinInt, 0, 1, 2, 31, 32, 33, math.MaxInt} {
				m, e := sends(t, k, from, most, from/2)
				known[e]++
				kinds[m.Kind]++
			}
		}
	}
	for _, e := range []api.Errno{api.OK, api.ErrArg, api.ErrState, api.ErrNone} {
		if known[e] < 100 {
			t.Error(known)
		}
	}
	if kinds[2] < 100 || kinds[7] < 100 {
		t.Error(kinds)
	}
}

func TestErrorsOfSend(t *testing.T) {
	wrong, stale, idle := kept(), kept(), kept()
	wrong.Entries[0].Index = 5
	stale.Own = 8
	idle.Own, idle.Flows = 0, nil
	for _, x := range []struct {
		k    api.Kept
		from uint64
		want api.Errno
	}{
		{wrong, 0, api.ErrArg}, {wrong, 7, api.ErrArg}, {wrong, 99, api.ErrArg}, {stale, 0, api.ErrState}, {stale, 7, api.ErrState}, {stale, 99, api.ErrState},
		{idle, 0, api.ErrState}, {idle, 7, api.ErrState}, {idle, 99, api.ErrState}, {kept(), 11, api.ErrNone}, {kept(), 99, api.ErrNone}, {kept(), math.MaxUint64, api.ErrNone},
		{kept(), 10, api.OK}, {api.Kept{Own: 1}, 0, api.ErrArg}, {api.Kept{}, 0, api.ErrState}, {api.Kept{}, 1, api.ErrState}, {api.Kept{Term: 1, Own: 1}, 1, api.ErrNone},
	} {
		if _, e := sends(t, x.k, x.from, 9, 0); e != x.want {
			t.Errorf("%v %d: %d and not %d", x.k, x.from, e, x.want)
		}
	}
}

// What is sent of the base is read as the base.
func TestBodyOfSend(t *testing.T) {
	for _, k := range states() {
		if k.Base.Index == 0 || k.Own < k.Term {
			continue
		}
		m, e := oplog.Send(k, k.Base.Index-1, 9, 9)
		b, f := record.ReadBase(m.Body)
		if e != api.OK || f != api.OK || !equalBase(b, k.Base) || m.Upto != 0 || bytes.Equal(m.Body, nil) {
			t.Errorf("%v: %v %d %d", k, m, e, f)
		}
	}
}
