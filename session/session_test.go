package session_test

import (
	"math"
	"testing"

	"drawbridge/api"
	"drawbridge/session"
)

// is checks what a call comes to: an end, or an error and nothing beside it.
func is(t *testing.T, e api.End, err api.Errno, want api.End, why api.Errno) {
	t.Helper()
	if e != want || err != why || why != api.OK && e != (api.End{}) {
		t.Fatalf("%v %d and not %v %d", e, err, want, why)
	}
}

// gateway is a new end of a gateway.
func gateway(t *testing.T, stock int) api.End {
	t.Helper()
	e, err := session.New(nine(), 1, api.ToPeer, stock)
	is(t, e, err, api.End{Session: nine(), Epoch: 1, Way: 1, Out: api.Counter{Next: 1}, In: api.Window{Floor: 1, Limit: 1}, Stock: stock}, api.OK)
	return e
}

// caller is a new end of the peer.
func caller(t *testing.T) api.End {
	t.Helper()
	e, err := session.New(nine(), 1, api.ToGate, 1)
	is(t, e, err, api.End{Session: nine(), Epoch: 1, Way: 0, Out: api.Counter{Next: 1, Leased: most}, In: api.Window{Floor: 1, Limit: most + 1}, Stock: 1}, api.OK)
	return e
}

// Examples

func TestFirstExample(t *testing.T) {
	g := gateway(t, 32)
	notSent(t, g, nil, api.ErrNone)
	if r, ok := session.Leases(g); !ok || !sameRecord(r, api.Record{Kind: api.RecLease, Session: 9, Upto: 32}) {
		t.Error(r, ok)
	}
}

func TestSecondExample(t *testing.T) {
	g, p := gateway(t, 32), caller(t)
	r, _ := session.Leases(g)
	g = grants(t, g, r)
	q, _ := sends(t, g, []byte("hi"))
	p = receives(t, p, q, []byte("hi"))
	notReceived(t, p, q, api.ErrThere)
}

func TestThirdExample(t *testing.T) {
	g, p := gateway(t, 32), caller(t)
	q, _ := sends(t, p, []byte("up"))
	notReceived(t, g, q, api.ErrFull)
	r, ok := session.Limits(g, 1)
	if !ok || !sameRecord(r, api.Record{Kind: api.RecLimit, Session: 9, Upto: 33}) {
		t.Error(r, ok)
	}
	receives(t, grants(t, g, r), q, []byte("up"))
}

// P16.1

func TestCheckOfValidEnds(t *testing.T) {
	for _, e := range append(ends(), used(), gateway(t, 1), caller(t)) {
		if err := session.Check(e); err != api.OK || !valid(e) {
			t.Errorf("%v: %d", e, err)
		}
	}
	for _, change := range []func(*api.End){
		func(e *api.End) { e.Session.ID = 1 },
		func(e *api.End) { e.Session.ID = math.MaxUint64 },
		func(e *api.End) { e.Session.Peer = 1 },
		func(e *api.End) { e.Session.Peer = 65536 },
		func(e *api.End) { e.Session.Secret = [32]byte{} },
		func(e *api.End) { e.Epoch = 1 },
		func(e *api.End) { e.Epoch = math.MaxUint32 },
		func(e *api.End) { e.Way = 0 },
		func(e *api.End) { e.Way = 1 },
		func(e *api.End) { e.Stock = 1 },
		func(e *api.End) { e.Stock = 65536 },
	} {
		e := used()
		change(&e)
		if err := session.Check(e); err != api.OK {
			t.Errorf("%v: %d", e, err)
		}
	}
}

func TestCheckOfFaultyEnds(t *testing.T) {
	for _, e := range faulty() {
		if err := session.Check(e); err != api.ErrArg || valid(e) {
			t.Fatalf("%v: %d", e, err)
		}
	}
}

func TestCheckOfAllThatIsChanged(t *testing.T) {
	known := map[bool]int{}
	for _, was := range ends() {
		for _, change := range changes() {
			e := was
			change(&e)
			known[valid(e)]++
			if err := session.Check(e); valid(e) != (err == api.OK) || err != api.OK && err != api.ErrArg {
				t.Fatalf("%v: %d", e, err)
			}
		}
	}
	if known[true] < 1000 || known[false] < 1000 {
		t.Error(known)
	}
}

// numbers are those at which a Peer, a way or a stock might change.
func numbers() []int {
	return []int{math.MinInt, -65536, -2, -1, 0, 1, 2, 3, 32, 255, 256, 65535, 65536, 65537, 131072, 1 << 32, 1<<32 + 1, math.MaxInt}
}

func TestNewOfAllEdges(t *testing.T) {
	known := map[api.Errno]int{}
	for _, id := range []uint64{0, 1, 9, 1 << 32, math.MaxUint64} {
		for _, epoch := range []uint32{0, 1, 7, 1 << 31, math.MaxUint32} {
			for _, peer := range numbers() {
				for _, way := range numbers() {
					for _, stock := range numbers() {
						s := api.Session{ID: id, Peer: peer, Secret: bytes32(byte(peer))}
						want, why := fresh(s, epoch, way, stock)
						known[why]++
						e, err := session.New(s, epoch, way, stock)
						is(t, e, err, want, why)
					}
				}
			}
		}
	}
	if known[api.OK] < 1000 || known[api.ErrArg] < 10000 {
		t.Error(known)
	}
}

func TestAllOfAPeerIsLeasedAndAllowed(t *testing.T) {
	p := caller(t)
	p.Out.Next, p.In = most, api.Window{Floor: 1, Top: most - 1, Seen: 1, Limit: p.In.Limit}
	q, p := sends(t, p, []byte("the last one"))
	if q.Count != most {
		t.Fatal(q.Count)
	}
	notSent(t, p, nil, api.ErrNone)
	g := gateway(t, 1)
	g.Out = api.Counter{Next: most, Leased: most}
	q, _ = sends(t, g, []byte("the last answer"))
	receives(t, p, q, []byte("the last answer"))
	if r, ok := session.Leases(p); ok || !sameRecord(r, api.Record{}) {
		t.Error(r, ok)
	}
}

// flows are valid flows of the session and of others, and such as are not valid.
func flows() []api.Flow {
	var all []api.Flow
	for _, e := range append(ends(), faulty()[:200]...) {
		all = append(all, api.Flow{ID: e.Session.ID, Out: e.Out, In: e.In}, api.Flow{ID: e.Session.ID + 1, Out: e.Out, In: e.In})
	}
	return all
}

func TestOf(t *testing.T) {
	known := map[api.Errno]int{}
	for i, f := range flows() {
		for _, id := range []uint64{f.ID, f.ID - 1, 9, 0} {
			for _, peer := range []int{0, 1, 3, 65536, 65537} {
				for _, stock := range []int{-1, 0, 1, 32, 65536, 65537} {
					for _, epoch := range []uint32{0, 1, 7, math.MaxUint32} {
						s := api.Session{ID: id, Peer: peer, Secret: bytes32(byte(i))}
						want, why := of(s, epoch, stock, f)
						known[why]++
						e, err := session.Of(s, epoch, stock, f)
						is(t, e, err, want, why)
					}
				}
			}
		}
	}
	if known[api.OK] < 1000 || known[api.ErrArg] < 10000 {
		t.Error(known)
	}
}

func TestFlow(t *testing.T) {
	for _, e := range append(ends(), faulty()...) {
		f := session.Flow(e)
		if f != (api.Flow{ID: e.Session.ID, Out: e.Out, In: e.In}) {
			t.Fatalf("%v: %v", e, f)
		}
		if valid(e) && e.Way == api.ToPeer {
			again, err := session.Of(e.Session, e.Epoch, e.Stock, f)
			is(t, again, err, e, api.OK)
		}
	}
}

func TestSame(t *testing.T) {
	all := append(ends(), faulty()[:60]...)
	for i, a := range all {
		for j, b := range all {
			if session.Same(a, b) != (a == b) || i == j && !session.Same(a, b) {
				t.Fatalf("%v %v", a, b)
			}
		}
	}
	for _, was := range []api.End{used(), {}, caller(t)} {
		for i, change := range changes() {
			e := was
			change(&e)
			if session.Same(e, was) || session.Same(was, e) || !session.Same(e, e) {
				t.Fatalf("change %d of %v", i, was)
			}
		}
	}
}

// P16.3: Move

func TestMove(t *testing.T) {
	known := map[api.Errno]int{}
	for _, e := range append(ends(), faulty()...) {
		for _, epoch := range []uint32{0, 1, 2, e.Epoch - 1, e.Epoch, e.Epoch + 1, e.Epoch + 256, 1 << 31, math.MaxUint32} {
			want, why := moved(e, epoch)
			known[why]++
			got, err := session.Move(e, epoch)
			is(t, got, err, want, why)
		}
	}
	for _, why := range []api.Errno{api.OK, api.ErrArg, api.ErrOld} {
		if known[why] < 300 {
			t.Error(known)
		}
	}
}

func TestMoveKeepsAllButTheCounters(t *testing.T) {
	g := used()
	e, err := session.Move(g, 8)
	is(t, e, err, api.End{Session: g.Session, Epoch: 8, Way: 1, Out: api.Counter{Next: 1}, In: api.Window{Floor: 1, Limit: 1}, Stock: 32}, api.OK)
	notSent(t, e, nil, api.ErrNone)
	g.Way = 0
	e, err = session.Move(g, math.MaxUint32)
	is(t, e, err, api.End{Session: g.Session, Epoch: math.MaxUint32, Way: 0, Out: api.Counter{Next: 1, Leased: most}, In: api.Window{Floor: 1, Limit: most + 1}, Stock: 32}, api.OK)
	e, err = session.Move(e, math.MaxUint32)
	is(t, e, err, api.End{}, api.ErrOld)
}
