package session_test

import (
	"bytes"
	"math/rand"
	"testing"

	"drawbridge/api"
	"drawbridge/record"
	"drawbridge/session"
)

// P16.4

// number is what must be used once.
type number struct {
	way   int
	epoch uint32
	count uint64
}

// letter is a packet that was sent, and which way.
type letter struct {
	api.Packet
	way int
}

// node is a gateway: what is safe of it, and its end, which a crash takes away.
type node struct {
	kept api.Kept
	end  api.End
	// What it may have accepted, as a crash leaves it, and what it accepted since.
	floor, top uint64
	took       map[uint64]int
}

// world is a session: the gateways that have owned an epoch, each of which believes that it still does, its peer, and all
// packets that were ever sent.
type world struct {
	r       *rand.Rand
	nodes   []*node
	peer    api.End
	letters []letter
	plain   map[number][]byte
	used    map[number]int
	known   map[string]int
}

// claim lets another gateway own the next epoch.
func (w *world) claim(t *testing.T) {
	t.Helper()
	epoch := uint32(len(w.nodes) + 1)
	kept, err := record.Do(record.New(), api.Record{Kind: api.RecOwn, Epoch: epoch})
	if err != api.OK {
		t.Fatal(err)
	}
	e, err := session.New(nine(), epoch, api.ToPeer, w.r.Intn(9)+1)
	if err != api.OK {
		t.Fatal(err)
	}
	w.nodes = append(w.nodes, &node{kept: kept, end: e, floor: 1, took: map[uint64]int{}})
	w.known["claim"]++
}

// safe makes a record safe, and grants it, unless there is a crash in between.
func (w *world) safe(t *testing.T, n *node, r api.Record) bool {
	t.Helper()
	kept, err := record.Do(n.kept, r)
	if err != api.OK {
		t.Fatal(r, err)
	}
	n.kept = kept
	if w.r.Intn(20) == 0 {
		w.crash(t, n)
		return false
	}
	n.end = grants(t, n.end, r)
	return true
}

// crash leaves a gateway with what is safe.
func (w *world) crash(t *testing.T, n *node) {
	t.Helper()
	kept, err := record.Recover(n.kept)
	if err != api.OK {
		t.Fatal(err)
	}
	f, there := record.Flow(kept, 9)
	if !there {
		f = api.Flow{ID: 9, Out: api.Counter{Next: 1}, In: api.Window{Floor: 1, Limit: 1}}
	}
	e, err := session.Of(nine(), n.end.Epoch, n.end.Stock, f)
	if err != api.OK {
		t.Fatal(err)
	}
	n.kept, n.end = kept, e
	n.floor, n.top, n.took = f.In.Floor, f.In.Floor-1, map[uint64]int{}
	w.known["crash"]++
}

// sent notes what an end has sent.
func (w *world) sent(t *testing.T, way int, p api.Packet, plain []byte) {
	t.Helper()
	x := number{way, p.Epoch, p.Count}
	if _, there := w.plain[x]; there {
		t.Fatalf("%v is sent twice", x)
	}
	w.plain[x] = plain
	w.letters = append(w.letters, letter{p, way})
	w.known["sent"]++
}

// took notes what an end has received.
func (w *world) took(t *testing.T, p letter, plain []byte) {
	t.Helper()
	x := number{p.way, p.Epoch, p.Count}
	if w.used[x]++; w.used[x] > 1 {
		t.Fatalf("%v is received twice", x)
	}
	if was, there := w.plain[x]; !there || !bytes.Equal(was, plain) {
		t.Fatalf("%v: %x and not %x", x, plain, was)
	}
	w.known["took"]++
}

// fromGateway lets a gateway send something, if it has a number for it, or gets one.
func (w *world) fromGateway(t *testing.T, n *node) {
	t.Helper()
	if r, ok := session.Leases(n.end); ok && !w.safe(t, n, r) {
		return
	}
	plain := some(w.r.Intn(40))
	p, e := sends(t, n.end, plain)
	n.end = e
	w.sent(t, api.ToPeer, p, plain)
}

// fromPeer lets the peer send something.
func (w *world) fromPeer(t *testing.T) {
	t.Helper()
	plain := some(w.r.Intn(40))
	p, e := sends(t, w.peer, plain)
	w.peer = e
	w.sent(t, api.ToGate, p, plain)
}

// toGateway lets any packet arrive at a gateway.
func (w *world) toGateway(t *testing.T, n *node, p letter) {
	t.Helper()
	if r, ok := session.Limits(n.end, p.Count); ok {
		// Only for what is the peer's is anything made safe.
		if _, _, err := session.Receive(n.end, p.Packet); err == api.ErrFull && !w.safe(t, n, r) {
			return
		}
	}
	its := p.way == api.ToGate && p.Epoch == n.end.Epoch
	is := its && p.Count >= n.floor && p.Count+64 > n.top && n.took[p.Count] == 0
	plain, e, err := session.Receive(n.end, p.Packet)
	if is != (err == api.OK) {
		t.Fatalf("%v: %v %d", n, p, err)
	}
	if err != api.OK {
		w.known["refused"]++
		return
	}
	w.took(t, p, plain)
	n.end, n.top = e, max(n.top, p.Count)
	n.took[p.Count]++
}

// toPeer lets any packet arrive at the peer, which follows the epoch.
func (w *world) toPeer(t *testing.T, p letter) {
	t.Helper()
	e := w.peer
	if p.Epoch > e.Epoch {
		e, _ = session.Move(e, p.Epoch)
	}
	plain, e, err := session.Receive(e, p.Packet)
	if err != api.OK {
		w.known["refused"]++
		return
	}
	if p.way != api.ToPeer || e.Epoch < w.peer.Epoch {
		t.Fatalf("%v: %v", w.peer, p)
	}
	w.took(t, p, plain)
	if e.Epoch > w.peer.Epoch {
		w.known["moved"]++
	}
	w.peer = e
}

// step does anything.
func (w *world) step(t *testing.T) {
	t.Helper()
	n := w.nodes[len(w.nodes)-1]
	if w.r.Intn(4) == 0 {
		n = w.nodes[w.r.Intn(len(w.nodes))]
	}
	var p letter
	if len(w.letters) > 0 {
		p = w.letters[len(w.letters)-1-w.r.Intn(min(len(w.letters), 100))]
	}
	switch x := w.r.Intn(100); {
	case x == 0:
		w.claim(t)
	case x < 4:
		w.crash(t, n)
	case x < 25:
		w.fromGateway(t, n)
	case x < 50:
		w.fromPeer(t)
	case x < 75:
		w.toGateway(t, n, p)
	default:
		w.toPeer(t, p)
	}
}

func TestLives(t *testing.T) {
	known := map[string]int{}
	for life := range 60 {
		w := &world{r: rand.New(rand.NewSource(int64(life))), peer: caller(t), plain: map[number][]byte{}, used: map[number]int{}, known: known}
		w.claim(t)
		for range 600 {
			w.step(t)
		}
	}
	for _, x := range []string{"claim", "crash", "sent", "took", "refused", "moved"} {
		if known[x] < 100 {
			t.Error(known)
		}
	}
}

// Without a crash nothing is lost: what arrives in order is received, all of it, both ways.
func TestAllIsReceivedInOrder(t *testing.T) {
	for _, stock := range []int{1, 2, 7, 64, 65536} {
		g, p := gateway(t, stock), caller(t)
		for i := range 150 {
			if r, ok := session.Leases(g); ok != (i%stock == 0) {
				t.Fatal(stock, i, r)
			} else if ok {
				g = grants(t, g, r)
			}
			var down, up api.Packet
			down, g = sends(t, g, some(i))
			p = receives(t, p, down, some(i))
			up, p = sends(t, p, some(2*i))
			if r, ok := session.Limits(g, up.Count); ok != (i%stock == 0) {
				t.Fatal(stock, i, r)
			} else if ok {
				g = grants(t, g, r)
			}
			g = receives(t, g, up, some(2*i))
			notReceived(t, g, up, api.ErrThere)
			notReceived(t, p, down, api.ErrThere)
		}
	}
}

// An end that was recovered sends nothing before more is leased, and receives nothing that it may have received.
func TestRecoveredEnds(t *testing.T) {
	for _, was := range ends() {
		if was.Way == api.ToGate {
			continue
		}
		kept, err := record.Recover(api.Kept{Term: was.Epoch, Own: was.Epoch, Flows: []api.Flow{session.Flow(was)}})
		if err != api.OK {
			t.Fatal(err)
		}
		f, _ := record.Flow(kept, was.Session.ID)
		e, err := session.Of(was.Session, was.Epoch, was.Stock, f)
		if err != api.OK {
			t.Fatal(err)
		}
		notSent(t, e, nil, api.ErrNone)
		for _, n := range counts(was) {
			if n < 1 || n > most {
				continue
			}
			why := api.ErrOld
			if n >= was.In.Limit {
				why = api.ErrFull
			}
			notReceived(t, e, sealed(t, e, n, nil), why)
		}
		if r, ok := session.Leases(e); ok {
			if p, _ := sends(t, grants(t, e, r), nil); p.Count != was.Out.Leased+1 {
				t.Fatalf("%v: %d", was, p.Count)
			}
		} else if was.Out.Leased < most {
			t.Fatal(was)
		}
	}
}
