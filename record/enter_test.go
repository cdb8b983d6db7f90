package record_test

import (
	"math"
	"math/rand"
	"slices"
	"testing"

	"drawbridge/api"
	"drawbridge/record"
)

// enters checks Enter of b and e against the second reading, valid or not.
func enters(t *testing.T, b api.Base, e api.Entry) (api.Base, api.Errno) {
	t.Helper()
	want, wrong := entered(b, e)
	got, err := record.Enter(b, e)
	if err != wrong || !equalBase(got, want) {
		t.Fatalf("%v\n%v:\n%v %d and not\n%v %d", b, e, got, err, want, wrong)
	}
	if err != api.OK && !noBase(got) {
		t.Fatalf("%v\n%v:\n%v beside %d", b, e, got, err)
	}
	if err == api.OK && record.CheckBase(got) != api.OK {
		t.Fatalf("%v\n%v:\n%v is not valid", b, e, got)
	}
	return got, err
}

// enter is b after what comes next, which must succeed.
func enter(t *testing.T, b api.Base, e api.Entry) api.Base {
	t.Helper()
	e.Index = b.Index + 1
	e.Epoch = max(e.Epoch, b.Epoch, 1)
	got, err := enters(t, b, e)
	if err != api.OK || got.Index != e.Index || got.Epoch != e.Epoch {
		t.Fatalf("%v\n%v:\n%v %d", b, e, got, err)
	}
	return got
}

// operated is b after an operation.
func operated(t *testing.T, b api.Base, o api.Op) api.Base {
	t.Helper()
	return enter(t, b, api.Entry{Kind: 1, Op: o})
}

// opened is b after a session was opened.
func opened(t *testing.T, b api.Base, id uint64, peer int) api.Base {
	t.Helper()
	return enter(t, b, entOpen(0, 0, id, peer))
}

// have checks the IDs of the sessions of b.
func have(t *testing.T, b api.Base, want ...uint64) {
	t.Helper()
	if !slices.Equal(sessionIDs(b.Sessions), want) {
		t.Errorf("%v and not %v", sessionIDs(b.Sessions), want)
	}
}

// P14.1: Enter

func TestEnterOperations(t *testing.T) {
	b := operated(t, api.Base{}, api.Op{Kind: 1, Ref: 4, ID: 2, Key: bytes32(1)})
	if b.Index != 1 || b.Epoch != 1 || !slices.Equal(b.Refs, []uint64{4}) || !slices.Equal(b.Config.Peers, []api.Member{{ID: 2, Key: bytes32(1)}}) {
		t.Error(b)
	}
	b = operated(t, b, api.Op{Kind: 4, Ref: 0, ID: 2, Addr: 1 << 31, Bits: 1})
	if !slices.Equal(b.Refs, []uint64{4, 0}) || len(b.Config.Routes) != 1 {
		t.Error(b)
	}
	b = operated(t, b, api.Op{Kind: 2, Ref: math.MaxUint64, ID: 2})
	if !slices.Equal(b.Refs, []uint64{4, 0, math.MaxUint64}) || !b.Config.Peers[0].Off {
		t.Error(b)
	}
	// One that is not possible changes nothing, but was seen.
	b = operated(t, b, api.Op{Kind: 2, Ref: 5, ID: 3})
	if !slices.Equal(b.Refs, []uint64{4, 0, math.MaxUint64, 5}) || len(b.Config.Peers) != 1 {
		t.Error(b)
	}
	if b.Index != 4 {
		t.Error(b)
	}
}

// The same Ref has an effect once, whatever operation it belongs to.
func TestEnterTheSameRef(t *testing.T) {
	was := base()
	was.Sessions = was.Sessions[:3]
	for _, ref := range was.Refs {
		for _, o := range []api.Op{{Kind: 1, ID: 8}, {Kind: 2, ID: 1}, {Kind: 3, ID: 1}, {Kind: 4, ID: 1}, {Kind: 5, Addr: 10 << 24, Bits: 8}} {
			o.Ref = ref
			b := operated(t, was, o)
			b.Index, b.Epoch = was.Index, was.Epoch
			if !equalBase(b, was) {
				t.Errorf("%v: %v", o, b)
			}
			o.Ref = 6
			b = operated(t, was, o)
			if len(b.Refs) != 5 || b.Refs[4] != 6 || record.Same(api.Kept{Base: api.Base{Config: b.Config}}, api.Kept{Base: api.Base{Config: was.Config}}) {
				t.Errorf("%v: %v", o, b)
			}
		}
	}
	// Also one that was not possible then.
	b := operated(t, was, api.Op{Kind: 2, Ref: 6, ID: 5})
	b = operated(t, b, api.Op{Kind: 1, Ref: 7, ID: 5})
	b = operated(t, b, api.Op{Kind: 2, Ref: 6, ID: 5})
	if at := slices.IndexFunc(b.Config.Peers, func(m api.Member) bool { return m.ID == 5 }); b.Config.Peers[at].Off || len(b.Refs) != 6 {
		t.Error(b)
	}
}

// The last 64 Refs are known.
func TestEnterForgetsRefs(t *testing.T) {
	b := operated(t, api.Base{}, api.Op{Kind: 1, Ref: 1000, ID: 1})
	refs := []uint64{1000}
	for i := range uint64(200) {
		ref := i * 3 % 151
		if !slices.Contains(refs, ref) {
			refs = append(refs, ref)
		}
		refs = refs[max(0, len(refs)-64):]
		b = operated(t, b, api.Op{Kind: 1, Ref: ref, ID: 2})
		if !slices.Equal(b.Refs, refs) {
			t.Fatalf("%d: %v and not %v", i, b.Refs, refs)
		}
	}
	if len(refs) != 64 || slices.Contains(refs, 1000) {
		t.Error(refs)
	}
	// The first one is known until another one comes, and then no more.
	first, second := refs[0], refs[1]
	b = operated(t, b, api.Op{Kind: 2, Ref: first, ID: 1})
	if b.Config.Peers[0].Off {
		t.Error(b)
	}
	b = operated(t, b, api.Op{Kind: 1, Ref: 5000, ID: 2})
	b = operated(t, b, api.Op{Kind: 2, Ref: second, ID: 1})
	if b.Config.Peers[0].Off || b.Refs[0] != second || b.Refs[63] != 5000 {
		t.Error(b)
	}
	b = operated(t, b, api.Op{Kind: 2, Ref: first, ID: 1})
	if !b.Config.Peers[0].Off || b.Refs[63] != first || b.Refs[0] == second || len(b.Refs) != 64 {
		t.Error(b)
	}
}

func TestEnterSessions(t *testing.T) {
	b := base()
	have(t, b, 4, 7, 9, 1<<40)
	b = opened(t, b, 8, 1)
	have(t, b, 4, 7, 8, 9, 1<<40)
	b = opened(t, b, 1, 3)
	have(t, b, 1, 4, 7, 8, 9, 1<<40)
	b = opened(t, b, math.MaxUint64, 65536)
	have(t, b, 1, 4, 7, 8, 9, 1<<40, math.MaxUint64)
	// Who is Off, or nobody, has none.
	b = opened(t, b, 5, 2)
	b = opened(t, b, 5, 4)
	b = opened(t, b, 4, 2)
	b = opened(t, b, 9, 77)
	have(t, b, 1, 4, 7, 8, 9, 1<<40, math.MaxUint64)
	if b.Sessions[1] != session(4, 1) || b.Sessions[4] != session(9, 1) {
		t.Error(b.Sessions)
	}
	// One with that ID is replaced.
	b = opened(t, b, 7, 1)
	b = opened(t, b, 9, 3)
	have(t, b, 1, 4, 7, 8, 9, 1<<40, math.MaxUint64)
	if b.Sessions[2] != session(7, 1) || b.Sessions[4] != session(9, 3) {
		t.Error(b.Sessions)
	}
	for _, id := range []uint64{8, 8, 2, 1, math.MaxUint64, 1 << 40, 6, 4} {
		b = enter(t, b, entShut(0, 0, id))
	}
	have(t, b, 7, 9)
	b = enter(t, enter(t, b, entShut(0, 0, 7)), entShut(0, 0, 9))
	have(t, b)
	have(t, enter(t, b, entShut(0, 0, 9)))
	if b.Index != 24 || len(b.Refs) != 4 {
		t.Error(b)
	}
}

// An OpOff and an OpDrop remove the sessions of that peer; no other operation removes any.
func TestEnterRemovesSessions(t *testing.T) {
	b := base()
	b.Config.Peers[1].Off = false
	b.Sessions = []api.Session{session(1, 1), session(2, 2), session(3, 1), session(4, 3), session(5, 77), session(6, 1)}
	for _, kind := range []int{2, 3} {
		have(t, operated(t, b, api.Op{Kind: kind, Ref: 50, ID: 1}), 2, 4, 5)
		have(t, operated(t, b, api.Op{Kind: kind, Ref: 50, ID: 2}), 1, 3, 4, 5, 6)
		have(t, operated(t, b, api.Op{Kind: kind, Ref: 50, ID: 3}), 1, 2, 3, 5, 6)
		have(t, operated(t, b, api.Op{Kind: kind, Ref: 50, ID: 65536}), 1, 2, 3, 4, 5, 6)
		// There is no such peer, so nothing changes.
		have(t, operated(t, b, api.Op{Kind: kind, Ref: 50, ID: 77}), 1, 2, 3, 4, 5, 6)
		// It was done before.
		have(t, operated(t, b, api.Op{Kind: kind, Ref: 9, ID: 1}), 1, 2, 3, 4, 5, 6)
	}
	// One that is Off already may have had sessions before.
	b.Config.Peers[0].Off = true
	have(t, operated(t, b, api.Op{Kind: 2, Ref: 50, ID: 1}), 2, 4, 5)
	for _, o := range []api.Op{{Kind: 1, ID: 1}, {Kind: 4, ID: 1}, {Kind: 5, Addr: 10 << 24, Bits: 8}, {Kind: 5}} {
		o.Ref = 50
		have(t, operated(t, b, o), 1, 2, 3, 4, 5, 6)
	}
}

// The smallest one makes room, unless there is room already.
func TestEnterTooManySessions(t *testing.T) {
	for n := range 65 {
		b := base()
		b.Sessions = manySessions(n)
		ids := sessionIDs(b.Sessions)
		for _, id := range []uint64{5, 15, 25, 315, 635, 700, math.MaxUint64} {
			want := copyOf(ids)
			if n == 64 {
				want = want[1:]
			}
			want = append(want, id)
			slices.Sort(want)
			have(t, opened(t, b, id, 1), want...)
			have(t, opened(t, b, id, 2), ids...)
		}
		for i, id := range ids {
			if got := opened(t, b, id, 65536); got.Sessions[i] != session(id, 65536) {
				t.Error(got.Sessions[i])
			}
			have(t, opened(t, b, id, 65536), ids...)
			have(t, enter(t, b, entShut(0, 0, id)), slices.Delete(copyOf(ids), i, i+1)...)
		}
	}
	b := base()
	b.Sessions = manySessions(64)
	// 10 goes ahead of 1, although this is smaller.
	b = opened(t, b, 1, 1)
	if b.Sessions[0].ID != 1 || b.Sessions[1].ID != 20 || len(b.Sessions) != 64 {
		t.Error(sessionIDs(b.Sessions))
	}
}

// The Index of an entry is one more than that of the base, and its Epoch not below.
func TestEnterContinues(t *testing.T) {
	all := []api.Base{{}, base(), {Index: 1, Epoch: 1}, {Index: math.MaxUint64 - 1, Epoch: math.MaxUint32}, {Index: math.MaxUint64, Epoch: 5}, {Index: math.MaxUint64, Epoch: math.MaxUint32}}
	known := map[api.Errno]int{}
	for _, b := range all {
		for _, index := range append(great(), b.Index-1, b.Index, b.Index+1, b.Index+2) {
			for _, epoch := range epochs() {
				for _, e := range []api.Entry{entShut(index, epoch, 7), entOpen(index, epoch, 8, 1), entOp(index, epoch, api.Op{Kind: 1, Ref: 77, ID: 7})} {
					_, err := enters(t, b, e)
					known[err]++
				}
			}
		}
	}
	if len(known) != 2 || known[api.OK] < 50 || known[api.ErrArg] < 50 {
		t.Error(known)
	}
	if b, e := record.Enter(api.Base{Index: math.MaxUint64, Epoch: 1}, entShut(0, 1, 1)); e != api.ErrArg || !noBase(b) {
		t.Error(b, e)
	}
}

func TestEnterOfWhatIsNotValid(t *testing.T) {
	known := map[api.Errno]int{}
	for _, b := range append(changedBases(base()), changedBases(api.Base{})...) {
		for _, e := range []api.Entry{entShut(b.Index+1, max(b.Epoch, 1), 7), entOpen(b.Index+1, max(b.Epoch, 1), 7, 1), entOp(b.Index+1, max(b.Epoch, 1), api.Op{Kind: 3, Ref: 1, ID: 3})} {
			_, err := enters(t, b, e)
			known[err]++
		}
	}
	for _, e := range []api.Entry{{}, {Epoch: 3, Index: 6}, {Kind: 4, Epoch: 3, Index: 6}, {Kind: -1, Epoch: 3, Index: 6}, {Kind: 1, Epoch: 3, Index: 6},
		{Kind: 2, Epoch: 3, Index: 6}, {Kind: 3, Epoch: 3, Index: 6}, entOpen(6, 3, 1, 0), entOpen(6, 3, 0, 1), entOp(6, 3, api.Op{Kind: 6}),
		{Kind: 3, Epoch: 3, Index: 6, Session: session(1, 1)}, {Kind: 3, Epoch: 3, Index: 6, Session: api.Session{ID: 1}, Op: api.Op{Kind: 5}}} {
		if b, err := enters(t, base(), e); err != api.ErrArg {
			t.Error(e, b, err)
		}
	}
	if len(known) != 2 || known[api.OK] < 100 || known[api.ErrArg] < 100 {
		t.Error(known)
	}
}

// anyEntry is one that may come after b.
func anyEntry(r *rand.Rand, b api.Base, ids uint64) api.Entry {
	e := api.Entry{Kind: r.Intn(3) + 1, Index: b.Index + 1, Epoch: max(b.Epoch, 1) + uint32(r.Intn(8)/7)}
	peer := r.Intn(5) + 1
	switch e.Kind {
	case 1:
		e.Op = api.Op{Kind: []int{1, 1, 1, 1, 2, 3, 4, 4, 5}[r.Intn(9)], Ref: r.Uint64() % 100}
		if e.Op.Kind < 5 {
			e.Op.ID = peer
		}
		if e.Op.Kind == 1 {
			e.Op.Key = bytes32(byte(r.Intn(3)))
		}
		if e.Op.Kind > 3 {
			e.Op.Bits = r.Intn(3)
			e.Op.Addr = r.Uint32() & uint32(math.MaxUint32<<(32-uint64(e.Op.Bits)))
		}
	case 2:
		e.Session = session(r.Uint64()%ids+1, peer)
	default:
		e.Session.ID = r.Uint64()%ids + 1
	}
	return e
}

// Bases live as the second reading says. With many IDs the sessions are too many.
func TestLivesOfBases(t *testing.T) {
	r := rand.New(rand.NewSource(1))
	crowds := 0
	for life := range 60 {
		b := api.Base{}
		for range 400 {
			e := anyEntry(r, b, []uint64{6, 90, 1 << 40}[life%3])
			if e.Kind == 1 && e.Op.Kind < 4 && e.Op.Kind > 1 && r.Intn(8) > 0 {
				continue
			}
			was := copyBase(b)
			b = enter(t, b, e)
			if len(was.Sessions) == 64 && len(b.Sessions) == 64 {
				crowds++
			}
		}
	}
	if crowds < 100 {
		t.Error(crowds)
	}
}
