package session_test

import (
	"math"
	"testing"

	"drawbridge/api"
	"drawbridge/record"
	"drawbridge/session"
	"drawbridge/window"
	"drawbridge/wire"
)

// sameRecord reports whether all fields of two records are equal, for such as have no base.
func sameRecord(a, b api.Record) bool {
	bare := func(x api.Base) bool {
		return x.Index == 0 && x.Epoch == 0 && len(x.Config.Peers) == 0 && len(x.Config.Routes) == 0 && len(x.Sessions) == 0 && len(x.Refs) == 0
	}
	return a.Kind == b.Kind && a.Epoch == b.Epoch && a.Index == b.Index && a.Session == b.Session && a.Upto == b.Upto &&
		wire.SameEntry(a.Entry, b.Entry) && bare(a.Base) && bare(b.Base)
}

// grants checks that a record is granted, and returns the end afterwards.
func grants(t *testing.T, e api.End, r api.Record) api.End {
	t.Helper()
	after, err := session.Grant(e, r)
	want, _ := granted(e, r)
	is(t, after, err, want, api.OK)
	return after
}

// notGranted checks that a record is not granted, and that nothing is told beside the error.
func notGranted(t *testing.T, e api.End, r api.Record) {
	t.Helper()
	after, err := session.Grant(e, r)
	is(t, after, err, api.End{}, api.ErrArg)
}

// P16.2: Leases

func TestLeases(t *testing.T) {
	known := map[bool]int{}
	for _, e := range append(ends(), faulty()...) {
		want, is := leases(e)
		known[is]++
		if r, ok := session.Leases(e); ok != is || !sameRecord(r, want) {
			t.Fatalf("%v: %v %t and not %v", e, r, ok, want)
		}
		if is && record.CheckRecord(want) != api.OK {
			t.Fatal(want)
		}
	}
	if known[true] < 20 || known[false] < 100 {
		t.Error(known)
	}
}

func TestLeasesAtEachEdge(t *testing.T) {
	for _, x := range []struct {
		out   api.Counter
		stock int
		upto  uint64
	}{
		{api.Counter{Next: 1}, 1, 1},
		{api.Counter{Next: 1}, 65536, 65536},
		{api.Counter{Next: 33, Leased: 32}, 32, 64},
		{api.Counter{Next: 32, Leased: 32}, 32, 0},
		{api.Counter{Next: 1, Leased: 32}, 32, 0},
		{api.Counter{Next: most - 31, Leased: most - 32}, 31, most - 1},
		{api.Counter{Next: most - 31, Leased: most - 32}, 32, most},
		{api.Counter{Next: most - 31, Leased: most - 32}, 33, most},
		{api.Counter{Next: most - 31, Leased: most - 32}, 65536, most},
		{api.Counter{Next: most, Leased: most - 1}, 1, most},
		{api.Counter{Next: most, Leased: most}, 1, 0},
		{api.Counter{Next: most + 1, Leased: most}, 1, 0},
		{api.Counter{Next: most + 1, Leased: most}, 65536, 0},
	} {
		for _, way := range []int{0, 1} {
			e := used()
			e.Out, e.Stock, e.Way = x.out, x.stock, way
			want := api.Record{Kind: 6, Session: 9, Upto: x.upto}
			if x.upto == 0 {
				want = api.Record{}
			}
			r, ok := session.Leases(e)
			if ok != (x.upto > 0) || !sameRecord(r, want) {
				t.Fatalf("%v: %v %t", e, r, ok)
			}
			if ok {
				_, after := sends(t, grants(t, e, r), nil)
				if after.Out.Leased != x.upto {
					t.Fatal(after)
				}
			}
		}
	}
}

// P16.2: Limits

func TestLimits(t *testing.T) {
	known := map[bool]int{}
	for _, e := range append(ends(), faulty()...) {
		for _, n := range append(counts(e), 0, most+1, most+2, 1<<61, 1<<63, math.MaxUint64-1, math.MaxUint64) {
			want, is := limits(e, n)
			known[is]++
			r, ok := session.Limits(e, n)
			if ok != is || !sameRecord(r, want) {
				t.Fatalf("%v %d: %v %t and not %v", e, n, r, ok, want)
			}
			if !is {
				continue
			}
			if record.CheckRecord(want) != api.OK {
				t.Fatal(want)
			}
			receives(t, grants(t, e, r), sealed(t, e, n, some(2)), some(2))
		}
	}
	if known[true] < 1000 || known[false] < 1000 {
		t.Error(known)
	}
}

func TestLimitsAtEachEdge(t *testing.T) {
	for _, x := range []struct {
		n     uint64
		stock int
		upto  uint64
	}{
		{90, 1, 91}, {90, 32, 122}, {90, 65536, 65626}, {1000, 7, 1007}, {91, 1, 92},
		{most - 32, 32, most}, {most - 31, 32, most + 1}, {most - 30, 32, most + 1}, {most - 1, 1, most}, {most - 1, 2, most + 1}, {most - 1, 3, most + 1},
		{most, 1, most + 1}, {most, 2, most + 1}, {most, 65536, most + 1},
		{0, 32, 0}, {1, 32, 0}, {2, 32, 0}, {3, 32, 0}, {6, 32, 0}, {7, 32, 0}, {65, 32, 0}, {70, 32, 0}, {71, 32, 0}, {89, 32, 0},
		{most + 1, 32, 0}, {math.MaxUint64 - 31, 32, 0}, {math.MaxUint64, 32, 0},
	} {
		for _, way := range []int{0, 1} {
			e := used()
			e.Stock, e.Way = x.stock, way
			want := api.Record{Kind: 7, Session: 9, Upto: x.upto}
			if x.upto == 0 {
				want = api.Record{}
			}
			if r, ok := session.Limits(e, x.n); ok != (x.upto > 0) || !sameRecord(r, want) {
				t.Errorf("%d %d: %v %t", x.n, x.stock, r, ok)
			}
		}
	}
}

// Limits is asked for a number, whether or not anything was received: it tells what Take of layer 7 would return.
func TestLimitsAreWhatTheWindowWants(t *testing.T) {
	for _, e := range ends() {
		for n := range uint64(200) {
			if _, ok := session.Limits(e, n); ok != window.Wants(e.In, n) {
				t.Fatalf("%v: %d", e, n)
			}
		}
	}
}

// P16.2: Grant

// records are such as may be granted to e, and such as may not.
func records(e api.End) []api.Record {
	var all []api.Record
	for _, session := range []uint64{e.Session.ID, e.Session.ID ^ 1, e.Session.ID ^ 1<<40, 0, 9} {
		for kind := -1; kind < 10; kind++ {
			for _, x := range []uint64{e.Out.Leased, e.In.Limit, 0, 1, 1 << 32, most, most + 1, 1 << 61, 1 << 63, math.MaxUint64} {
				for _, upto := range []uint64{x - 1, x, x + 1} {
					all = append(all, api.Record{Kind: kind, Session: session, Upto: upto})
				}
			}
		}
	}
	return all
}

func TestGrant(t *testing.T) {
	known := map[api.Errno]int{}
	for i, e := range append(ends(), faulty()...) {
		for j, r := range records(e) {
			if i >= 40 && (i+j)%11 > 0 {
				continue
			}
			want, why := granted(e, r)
			known[why]++
			after, err := session.Grant(e, r)
			is(t, after, err, want, why)
		}
	}
	if known[api.OK] < 1000 || known[api.ErrArg] < 10000 {
		t.Error(known)
	}
}

func TestGrantAtEachEdge(t *testing.T) {
	lease := func(upto uint64) api.Record { return api.Record{Kind: api.RecLease, Session: 9, Upto: upto} }
	limit := func(upto uint64) api.Record { return api.Record{Kind: api.RecLimit, Session: 9, Upto: upto} }
	e := used()
	for _, upto := range []uint64{17, 18, 16 + 32, 90, 1 << 40, most - 1, most} {
		want := e
		want.Out.Leased = upto
		after, err := session.Grant(e, lease(upto))
		is(t, after, err, want, api.OK)
	}
	for _, upto := range []uint64{0, 1, 4, 5, 15, 16, most + 1, most + 2, most + 16, 1 << 61, math.MaxUint64} {
		notGranted(t, e, lease(upto))
	}
	for _, upto := range []uint64{91, 92, 90 + 32, 1 << 40, most, most + 1} {
		want := e
		want.In.Limit = upto
		after, err := session.Grant(e, limit(upto))
		is(t, after, err, want, api.OK)
	}
	for _, upto := range []uint64{0, 1, 3, 17, 70, 89, 90, most + 2, 1 << 61, math.MaxUint64} {
		notGranted(t, e, limit(upto))
	}
	full := e
	full.Out, full.In = api.Counter{Next: 7, Leased: most}, api.Window{Floor: 1, Limit: most + 1}
	for _, upto := range []uint64{0, 1, 7, most, most + 1, most + 2, math.MaxUint64} {
		notGranted(t, full, lease(upto))
		notGranted(t, full, limit(upto))
	}
	for _, r := range []api.Record{
		{Kind: 1, Epoch: 8}, {Kind: 2, Epoch: 8}, {Kind: 4, Index: 9}, {Kind: 1, Epoch: 8, Session: 9, Upto: 40}, {Session: 9, Upto: 400}, {},
		{Kind: 3, Entry: api.Entry{Kind: 3, Epoch: 7, Index: 1, Session: api.Session{ID: 9}}}, {Kind: 5, Base: api.Base{Index: 9, Epoch: 7}},
		{Kind: 5, Session: 9, Upto: 400}, {Kind: 8, Session: 9, Upto: 400}, {Kind: -6, Session: 9, Upto: 400}, {Kind: 6 + 256, Session: 9, Upto: 400},
		{Kind: 6 + 1<<32, Session: 9, Upto: 400}, {Kind: 6, Session: 8, Upto: 400}, {Kind: 7, Session: 10, Upto: 400}, {Kind: 6, Session: 0, Upto: 400},
	} {
		notGranted(t, e, r)
	}
}

// The chapter names the Kind, the Session and what the layers below reject: no other field counts.
func TestGrantLooksAtNoOtherField(t *testing.T) {
	for _, kind := range []int{api.RecLease, api.RecLimit} {
		r := api.Record{Kind: kind, Session: 9, Upto: 400}
		want := grants(t, used(), r)
		r.Epoch, r.Index, r.Entry, r.Base = 7, 3, api.Entry{Kind: 3, Epoch: 7, Index: 1, Session: api.Session{ID: 9}}, api.Base{Index: 9, Epoch: 7}
		after, err := session.Grant(used(), r)
		is(t, after, err, want, api.OK)
	}
}

// What is granted is what is kept: the same flow comes of both.
func TestGrantIsWhatIsKept(t *testing.T) {
	for _, e := range ends() {
		k := api.Kept{Term: 9, Own: 9, Flows: []api.Flow{session.Flow(e)}}
		for _, r := range records(e) {
			after, err := session.Grant(e, r)
			kept, why := record.Do(k, r)
			if r.Session == e.Session.ID && (r.Kind == 6 || r.Kind == 7) && (err == api.OK) != (why == api.OK) {
				t.Fatalf("%v %v: %d %d", e, r, err, why)
			}
			if err != api.OK {
				continue
			}
			f, ok := record.Flow(kept, e.Session.ID)
			if why != api.OK || !ok || f != session.Flow(after) {
				t.Fatalf("%v %v: %v %v %d", e, r, after, f, why)
			}
		}
	}
}
