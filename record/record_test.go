package record_test

import (
	"math"
	"slices"
	"testing"

	"drawbridge/api"
	"drawbridge/record"
)

// checks checks Check of k, and of the functions that have its error.
func checks(t *testing.T, k api.Kept, known map[api.Errno]int) {
	t.Helper()
	want := api.ErrArg
	if valid(k) {
		want = api.OK
	}
	known[want]++
	if e := record.Check(k); e != want {
		t.Fatalf("%v: %d and not %d", k, e, want)
	}
	r, e := record.Recover(k)
	if e != want || e != api.OK && !nothing(r) || e == api.OK && !equal(r, recovered(k)) {
		t.Fatalf("%v recovered: %v %d and not %d", k, r, e, want)
	}
}

// checksBase checks CheckBase of b.
func checksBase(t *testing.T, b api.Base, known map[api.Errno]int) {
	t.Helper()
	want := api.ErrArg
	if validBase(b) {
		want = api.OK
	}
	known[want]++
	if e := record.CheckBase(b); e != want {
		t.Fatalf("%v: %d and not %d", b, e, want)
	}
}

// checksRecord checks CheckRecord of r.
func checksRecord(t *testing.T, r api.Record, known map[api.Errno]int) {
	t.Helper()
	want := api.ErrArg
	if validRecord(r) {
		want = api.OK
	}
	known[want]++
	if e := record.CheckRecord(r); e != want {
		t.Fatalf("%v: %d and not %d", r, e, want)
	}
}

func TestLimitsAndKinds(t *testing.T) {
	kinds := []int{api.RecTerm, api.RecOwn, api.RecEntry, api.RecCut, api.RecBase, api.RecLease, api.RecLimit}
	if !slices.Equal(kinds, []int{1, 2, 3, 4, 5, 6, 7}) {
		t.Error(kinds)
	}
	limits := []int{api.MaxSessions, api.MaxRefs, api.MaxLog, api.MaxFlows, api.MaxCounter}
	if !slices.Equal(limits, []int{mostSessions, mostRefs, mostEntries, mostFlows, mostCounter}) {
		t.Error(limits)
	}
}

// P14.1: New, Check, CheckBase and CheckRecord

func TestNew(t *testing.T) {
	k := record.New()
	if !nothing(k) || record.Check(k) != api.OK || record.CheckBase(k.Base) != api.OK {
		t.Error(k)
	}
}

func TestCheck(t *testing.T) {
	one := []api.Entry{entShut(1, 2, 1)}
	flows := func(f ...api.Flow) api.Kept { return api.Kept{Term: 2, Own: 1, Flows: f} }
	out := func(next, leased uint64) api.Kept {
		return flows(api.Flow{ID: 1, Out: api.Counter{Next: next, Leased: leased}, In: api.Window{Floor: 1, Limit: 1}})
	}
	for i, x := range []struct {
		k    api.Kept
		want api.Errno
	}{
		{api.Kept{}, api.OK},
		{api.Kept{Term: 1}, api.OK},
		{api.Kept{Term: 1, Own: 1}, api.OK},
		{api.Kept{Term: 2, Own: 1}, api.OK},
		{api.Kept{Term: 1, Own: 2}, api.ErrArg},
		{api.Kept{Own: 1}, api.ErrArg},
		{api.Kept{Base: base()}, api.ErrArg},
		{api.Kept{Term: 2, Base: base()}, api.ErrArg},
		{api.Kept{Term: 3, Base: base()}, api.OK},
		{api.Kept{Term: 3, Base: api.Base{Index: 1}}, api.ErrArg},
		{api.Kept{Term: 3, Base: api.Base{Epoch: 1}}, api.ErrArg},
		{api.Kept{Term: 3, Base: api.Base{Refs: make([]uint64, 65)}}, api.ErrArg},
		{api.Kept{Entries: one}, api.ErrArg},
		{api.Kept{Term: 1, Entries: one}, api.ErrArg},
		{api.Kept{Term: 2, Entries: one}, api.OK},
		{api.Kept{Term: 2, Entries: []api.Entry{entShut(2, 2, 1)}}, api.ErrArg},
		{api.Kept{Term: 2, Entries: []api.Entry{entShut(1, 1, 1), entShut(2, 2, 1)}}, api.OK},
		{api.Kept{Term: 2, Entries: []api.Entry{entShut(1, 2, 1), entShut(2, 1, 1)}}, api.ErrArg},
		{api.Kept{Term: 2, Entries: []api.Entry{entShut(1, 1, 1), entShut(1, 1, 1)}}, api.ErrArg},
		{api.Kept{Term: 2, Entries: []api.Entry{entShut(1, 1, 1), entShut(3, 1, 1)}}, api.ErrArg},
		{api.Kept{Term: 2, Entries: []api.Entry{entShut(1, 1, 0)}}, api.ErrArg},
		{api.Kept{Term: 9, Base: base(), Entries: []api.Entry{entShut(6, 3, 1)}}, api.OK},
		{api.Kept{Term: 9, Base: base(), Entries: []api.Entry{entShut(6, 2, 1)}}, api.ErrArg},
		{api.Kept{Term: 9, Base: base(), Entries: []api.Entry{entShut(5, 3, 1)}}, api.ErrArg},
		{api.Kept{Term: 9, Base: base(), Entries: []api.Entry{entShut(1, 3, 1)}}, api.ErrArg},
		{api.Kept{Term: 2, Own: 1, Flows: []api.Flow{flow(1)}}, api.OK},
		{api.Kept{Term: 2, Flows: []api.Flow{flow(1)}}, api.ErrArg},
		{flows(flow(0)), api.ErrArg},
		{flows(flow(1), flow(2), flow(9), flow(math.MaxUint64)), api.OK},
		{flows(flow(2), flow(1)), api.ErrArg},
		{flows(flow(1), flow(1)), api.ErrArg},
		{flows(flow(1), api.Flow{ID: 2}), api.ErrArg},
		{flows(api.Flow{ID: 1, Out: api.Counter{Next: 1}}), api.ErrArg},
		{flows(api.Flow{ID: 1, In: api.Window{Floor: 1, Limit: 1}}), api.ErrArg},
		{out(1, 0), api.OK},
		{out(0, 0), api.ErrArg},
		{out(2, 0), api.ErrArg},
		{out(mostCounter+1, mostCounter), api.OK},
		{out(1, mostCounter+1), api.ErrArg},
	} {
		if e := record.Check(x.k); e != x.want || valid(x.k) != (x.want == api.OK) {
			t.Errorf("%d: %v: %d and not %d", i, x.k, e, x.want)
		}
	}
}

func TestCheckOfAllThatIsChanged(t *testing.T) {
	known := map[api.Errno]int{}
	for _, k := range append(states(), kept()) {
		checks(t, k, known)
	}
	if known[api.ErrArg] != 0 {
		t.Error(known)
	}
	for _, k := range changedStates(kept()) {
		checks(t, k, known)
	}
	for _, k := range states() {
		if len(k.Entries) < 1000 {
			k.Base.Sessions, k.Flows = k.Base.Sessions[:min(2, len(k.Base.Sessions))], k.Flows[:min(2, len(k.Flows))]
			for _, n := range changedStates(k) {
				checks(t, n, known)
			}
		}
	}
	if known[api.OK] < 1000 || known[api.ErrArg] < 1000 {
		t.Error(known)
	}
}

// Two faults do not make up for each other.
func TestCheckOfTwoFaults(t *testing.T) {
	for i, k := range faulty() {
		if e := record.Check(k); e != api.ErrArg || valid(k) {
			t.Errorf("%d: %v: %d", i, k, e)
		}
		if record.Same(k, kept()) || record.Same(kept(), k) {
			t.Errorf("%d: %v is the same", i, k)
		}
		want := api.ErrArg
		if validBase(k.Base) {
			want = api.OK
		}
		if e := record.CheckBase(k.Base); e != want {
			t.Errorf("%d: %v: %d and not %d", i, k.Base, e, want)
		}
	}
}

func TestCheckOfTooMuch(t *testing.T) {
	for n := 1020; n < 1030; n++ {
		k := api.Kept{Term: 3, Own: 1, Entries: log(n, 0, 3)}
		if e := record.Check(k); (e == api.OK) != (n <= 1024) || e != api.OK && e != api.ErrArg {
			t.Errorf("%d entries: %d", n, e)
		}
		k = api.Kept{Term: 3, Own: 1, Flows: manyFlows(n)}
		if e := record.Check(k); (e == api.OK) != (n <= 1024) || e != api.OK && e != api.ErrArg {
			t.Errorf("%d flows: %d", n, e)
		}
	}
	for n := range 130 {
		b := base()
		b.Sessions = manySessions(n)
		if e := record.CheckBase(b); (e == api.OK) != (n <= 64) || e != api.OK && e != api.ErrArg {
			t.Errorf("%d sessions: %d", n, e)
		}
		b = base()
		b.Refs = manyRefs(n)
		if e := record.CheckBase(b); (e == api.OK) != (n <= 64) || e != api.OK && e != api.ErrArg {
			t.Errorf("%d Refs: %d", n, e)
		}
	}
}

func TestCheckBase(t *testing.T) {
	for i, x := range []struct {
		b    api.Base
		want api.Errno
	}{
		{api.Base{}, api.OK},
		{base(), api.OK},
		{api.Base{Index: 1, Epoch: 1}, api.OK},
		{api.Base{Index: math.MaxUint64, Epoch: math.MaxUint32}, api.OK},
		{api.Base{Index: 1}, api.ErrArg},
		{api.Base{Epoch: 1}, api.ErrArg},
		{api.Base{Index: math.MaxUint64}, api.ErrArg},
		{api.Base{Epoch: math.MaxUint32}, api.ErrArg},
		{api.Base{Config: base().Config}, api.OK},
		{api.Base{Config: api.Config{Peers: []api.Member{{ID: 0}}}}, api.ErrArg},
		{api.Base{Config: api.Config{Routes: []api.Route{{Peer: 1}}}}, api.ErrArg},
		{api.Base{Sessions: []api.Session{{ID: 1, Peer: 1}}}, api.OK},
		{api.Base{Sessions: []api.Session{{ID: math.MaxUint64, Peer: 65536}}}, api.OK},
		{api.Base{Sessions: []api.Session{{ID: 0, Peer: 1}}}, api.ErrArg},
		{api.Base{Sessions: []api.Session{{ID: 1, Peer: 0}}}, api.ErrArg},
		{api.Base{Sessions: []api.Session{{ID: 1, Peer: -1}}}, api.ErrArg},
		{api.Base{Sessions: []api.Session{{ID: 1, Peer: 65537}}}, api.ErrArg},
		{api.Base{Sessions: []api.Session{session(1, 1), session(2, 0)}}, api.ErrArg},
		{api.Base{Sessions: []api.Session{session(1, 0), session(2, 1)}}, api.ErrArg},
		{api.Base{Sessions: []api.Session{session(1, 1), session(2, 1), session(3, 2)}}, api.OK},
		{api.Base{Sessions: []api.Session{session(2, 1), session(1, 1)}}, api.ErrArg},
		{api.Base{Sessions: []api.Session{session(2, 1), session(2, 1)}}, api.ErrArg},
		{api.Base{Refs: []uint64{0, math.MaxUint64, 3, 3}}, api.OK},
	} {
		if e := record.CheckBase(x.b); e != x.want || validBase(x.b) != (x.want == api.OK) {
			t.Errorf("%d: %v: %d and not %d", i, x.b, e, x.want)
		}
	}
	known := map[api.Errno]int{}
	for _, b := range append(changedBases(base()), changedBases(api.Base{})...) {
		checksBase(t, b, known)
	}
	if known[api.OK] < 100 || known[api.ErrArg] < 200 {
		t.Error(known)
	}
}

func TestCheckRecord(t *testing.T) {
	shut := entShut(3, 2, 1)
	for i, x := range []struct {
		r    api.Record
		want api.Errno
	}{
		{api.Record{}, api.ErrArg},
		{api.Record{Kind: 8}, api.ErrArg},
		{api.Record{Kind: -1}, api.ErrArg},
		{api.Record{Kind: 1}, api.ErrArg},
		{api.Record{Kind: 1, Epoch: 1}, api.OK},
		{api.Record{Kind: 0, Epoch: 1}, api.ErrArg},
		{api.Record{Kind: 8, Epoch: 1}, api.ErrArg},
		{api.Record{Kind: 2}, api.ErrArg},
		{api.Record{Kind: 2, Epoch: math.MaxUint32}, api.OK},
		{api.Record{Kind: 2, Epoch: 1, Index: 1}, api.ErrArg},
		{api.Record{Kind: 3}, api.ErrArg},
		{api.Record{Kind: 3, Entry: shut}, api.OK},
		{api.Record{Kind: 3, Entry: shut, Epoch: 2}, api.ErrArg},
		{api.Record{Kind: 3, Entry: shut, Index: 3}, api.ErrArg},
		{api.Record{Kind: 3, Entry: entShut(0, 2, 1)}, api.ErrArg},
		{api.Record{Kind: 3, Entry: entShut(3, 0, 1)}, api.ErrArg},
		{api.Record{Kind: 4}, api.ErrArg},
		{api.Record{Kind: 4, Index: 1}, api.OK},
		{api.Record{Kind: 4, Index: math.MaxUint64}, api.OK},
		{api.Record{Kind: 4, Index: 1, Entry: shut}, api.ErrArg},
		{api.Record{Kind: 5}, api.ErrArg},
		{api.Record{Kind: 5, Base: base()}, api.OK},
		{api.Record{Kind: 5, Base: api.Base{Index: 1, Epoch: 1}}, api.OK},
		{api.Record{Kind: 5, Base: api.Base{Index: 1}}, api.ErrArg},
		{api.Record{Kind: 5, Base: api.Base{Epoch: 1}}, api.ErrArg},
		{api.Record{Kind: 5, Base: base(), Index: 5}, api.ErrArg},
		{api.Record{Kind: 5, Base: base(), Epoch: 3}, api.ErrArg},
		{api.Record{Kind: 6, Session: 1}, api.ErrArg},
		{api.Record{Kind: 6, Upto: 1}, api.ErrArg},
		{api.Record{Kind: 6, Session: 1, Upto: 1}, api.OK},
		{api.Record{Kind: 6, Session: math.MaxUint64, Upto: mostCounter}, api.OK},
		{api.Record{Kind: 6, Session: 1, Upto: mostCounter + 1}, api.ErrArg},
		{api.Record{Kind: 6, Session: 1, Upto: 1, Epoch: 1}, api.ErrArg},
		{api.Record{Kind: 7, Session: 1}, api.ErrArg},
		{api.Record{Kind: 7, Upto: 1}, api.ErrArg},
		{api.Record{Kind: 7, Session: 1, Upto: 1}, api.OK},
		{api.Record{Kind: 7, Session: 1, Upto: mostCounter + 1}, api.OK},
		{api.Record{Kind: 7, Session: 1, Upto: mostCounter + 2}, api.ErrArg},
		{api.Record{Kind: 7, Session: 1, Upto: math.MaxUint64}, api.ErrArg},
	} {
		if e := record.CheckRecord(x.r); e != x.want || validRecord(x.r) != (x.want == api.OK) {
			t.Errorf("%d: %v: %d and not %d", i, x.r, e, x.want)
		}
	}
}

// Each kind has its own fields, and no others.
func TestCheckRecordOfAllEdges(t *testing.T) {
	known := map[api.Errno]int{}
	bases := []api.Base{{}, base(), {Index: 1, Epoch: 1}, {Index: 1}, {Epoch: 1}, {Refs: []uint64{0}}, {Sessions: manySessions(1)},
		{Config: api.Config{Peers: base().Config.Peers}}, {Config: api.Config{Routes: base().Config.Routes}}, {Sessions: manySessions(65)}}
	entries := []api.Entry{{}, entShut(1, 1, 1), entOpen(1, 1, 1, 1), entOp(1, 1, api.Op{Kind: 5}), {Kind: 1}, {Epoch: 1}, {Index: 1}, {Op: api.Op{Ref: 1}}, {Session: api.Session{Peer: 1}}}
	for _, kind := range []int{math.MinInt, -1, 0, 1, 2, 3, 4, 5, 6, 7, 8, 9, 257, 1<<32 + 1, math.MaxInt} {
		for _, b := range bases {
			for _, entry := range entries {
				for mask := range 16 {
					for _, x := range []uint64{1, mostCounter, mostCounter + 1, mostCounter + 2} {
						of := func(bit int) uint64 { return x * uint64(mask>>bit&1) }
						checksRecord(t, api.Record{Kind: kind, Epoch: uint32(mask & 1), Index: of(1), Session: of(2), Upto: of(3), Entry: entry, Base: b}, known)
					}
				}
			}
		}
	}
	for _, b := range changedBases(base()) {
		checksRecord(t, api.Record{Kind: 5, Base: b}, known)
		checksRecord(t, api.Record{Kind: 1, Epoch: 1, Base: b}, known)
	}
	for _, k := range states() {
		for _, r := range records(k) {
			checksRecord(t, r, known)
		}
	}
	if known[api.OK] < 1000 || known[api.ErrArg] < 1000 {
		t.Error(known)
	}
}

// P14.2: Recover, Same and Flow

func TestRecover(t *testing.T) {
	k := kept()
	got, e := record.Recover(k)
	want := []api.Flow{
		{ID: 2, Out: api.Counter{Next: 17, Leased: 16}, In: api.Window{Floor: 33, Top: 32, Limit: 33}},
		{ID: 9, Out: api.Counter{Next: 17, Leased: 16}, In: api.Window{Floor: 33, Top: 32, Limit: 33}},
		{ID: 12, Out: api.Counter{Next: 1}, In: api.Window{Floor: 1, Limit: 1}},
		{ID: 1 << 50, Out: api.Counter{Next: 17, Leased: 16}, In: api.Window{Floor: 33, Top: 32, Limit: 33}},
	}
	if e != api.OK || !slices.Equal(got.Flows, want) {
		t.Errorf("%v %d", got.Flows, e)
	}
	got.Flows = k.Flows
	if !equal(got, k) {
		t.Errorf("%v", got)
	}
	// A second crash loses nothing more.
	for _, k := range states() {
		once, e := record.Recover(k)
		again, f := record.Recover(once)
		if e != api.OK || f != api.OK || !equal(once, again) || !equal(once, recovered(k)) {
			t.Errorf("%v: %v %d, %v %d", k, once, e, again, f)
		}
	}
	k.Own = 10
	if got, e := record.Recover(k); e != api.ErrArg || !nothing(got) {
		t.Errorf("%v %d", got, e)
	}
}

func TestSame(t *testing.T) {
	all := append(states(), changedStates(kept())...)
	for _, k := range all {
		if n := copyKept(k); !record.Same(k, n) || !record.Same(k, k) {
			t.Fatalf("%v is not the same", k)
		}
		if same := equal(k, kept()); record.Same(k, kept()) != same || record.Same(kept(), k) != same {
			t.Fatalf("%v: %t", k, !same)
		}
	}
	for _, k := range states() {
		for _, n := range states() {
			if record.Same(k, n) != equal(k, n) {
				t.Fatalf("%v, %v: %t", k, n, !equal(k, n))
			}
		}
	}
}

// Any two differences are as good as one.
func TestSameOfTwoDifferences(t *testing.T) {
	all := []func(*api.Kept){
		func(k *api.Kept) { k.Term++ },
		func(k *api.Kept) { k.Own-- },
		func(k *api.Kept) { k.Base.Index++ },
		func(k *api.Kept) { k.Base.Epoch-- },
		func(k *api.Kept) { k.Base.Config.Peers[1].Off = false },
		func(k *api.Kept) { k.Base.Config.Routes[0].Peer = 3 },
		func(k *api.Kept) { k.Base.Sessions[2].Peer = 3 },
		func(k *api.Kept) { k.Base.Refs[1]++ },
		func(k *api.Kept) { k.Entries[0].Op.ID++ },
		func(k *api.Kept) { k.Flows[3].Out.Next++ },
	}
	for _, one := range all {
		for _, other := range all {
			k := kept()
			one(&k)
			other(&k)
			if record.Same(k, kept()) || record.Same(kept(), k) {
				t.Errorf("%v is the same", k)
			}
		}
	}
	if n := kept(); !record.Same(n, kept()) {
		t.Errorf("%v is not the same", n)
	}
}

// Each byte of a secret and of a key counts.
func TestSameOfEachByte(t *testing.T) {
	for i := range 32 {
		k := kept()
		k.Base.Sessions[3].Secret[i] ^= 0x80
		n := kept()
		n.Base.Config.Peers[2].Key[i] ^= 1
		m := kept()
		m.Entries[1].Session.Secret[i] ^= 2
		if record.Same(k, kept()) || record.Same(n, kept()) || record.Same(kept(), m) || record.Same(k, n) {
			t.Error(i)
		}
	}
}

// flows checks Flow of k.
func flows(t *testing.T, k api.Kept, id uint64) {
	t.Helper()
	var want []api.Flow
	for _, f := range k.Flows {
		if f.ID == id {
			want = append(want, f)
		}
	}
	got, ok := record.Flow(k, id)
	if ok != (len(want) > 0) || ok && got != want[0] || !ok && got != (api.Flow{}) {
		t.Errorf("%d: %v %t and not %v", id, got, ok, want)
	}
}

func TestFlow(t *testing.T) {
	if f, ok := record.Flow(kept(), 9); !ok || f != flow(9) {
		t.Error(f, ok)
	}
	if f, ok := record.Flow(kept(), 10); ok || f != (api.Flow{}) {
		t.Error(f, ok)
	}
	for _, k := range states() {
		for _, id := range append(great(), 6, 9, 12, 3069, 3072, 3075, 1<<50) {
			flows(t, k, id)
		}
		for _, f := range k.Flows {
			flows(t, k, f.ID)
		}
	}
}

// What is not valid is searched as well, from the front.
func TestFlowOfStatesThatAreNotValid(t *testing.T) {
	second := flow(9)
	second.Out.Next++
	for _, l := range [][]api.Flow{{flow(9), second}, {second, flow(9)}, {flow(9), flow(3), flow(1), second, flow(0), flow(8)}, {{}, flow(0), {ID: 5}}, manyFlows(3000)} {
		for _, k := range []api.Kept{{Flows: l}, {Own: 9, Flows: l}, {Own: 1, Term: 1, Flows: l, Base: api.Base{Index: 1}}} {
			for id := range uint64(12) {
				flows(t, k, id)
			}
			flows(t, k, 9000)
		}
	}
}
