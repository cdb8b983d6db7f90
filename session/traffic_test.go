package session_test

import (
	"bytes"
	"math"
	"testing"

	"drawbridge/api"
	"drawbridge/packet"
	"drawbridge/session"
)

// sends checks that bytes are sent, and returns the packet, and the end afterwards.
func sends(t *testing.T, e api.End, plain []byte) (api.Packet, api.End) {
	t.Helper()
	p, after, err := session.Send(e, plain)
	want, end, _ := sent(e, plain)
	if err != api.OK || !packet.Same(p, want) || after != end {
		t.Fatalf("%v of %d bytes: %v %v %d", e, len(plain), p, after, err)
	}
	return p, after
}

// notSent checks that nothing is sent, and that nothing is told beside the error.
func notSent(t *testing.T, e api.End, plain []byte, why api.Errno) {
	t.Helper()
	if p, after, err := session.Send(e, plain); err != why || !packet.Same(p, api.Packet{}) || cap(p.Body) != 0 || after != (api.End{}) {
		t.Fatalf("%v of %d bytes: %v %v %d and not %d", e, len(plain), p, after, err, why)
	}
}

// receives checks that a packet is received, and returns the end afterwards.
func receives(t *testing.T, e api.End, p api.Packet, plain []byte) api.End {
	t.Helper()
	b, after, err := session.Receive(e, p)
	if _, want, _ := received(e, p); err != api.OK || !bytes.Equal(b, plain) || after != want {
		t.Fatalf("%v of %v: %x %v %d", e, p, b, after, err)
	}
	return after
}

// notReceived checks that a packet is not received, and that nothing is told beside the error.
func notReceived(t *testing.T, e api.End, p api.Packet, why api.Errno) {
	t.Helper()
	if b, after, err := session.Receive(e, p); err != why || len(b) != 0 || cap(b) != 0 || after != (api.End{}) {
		t.Fatalf("%v of %v: %x %v %d and not %d", e, p, b, after, err, why)
	}
}

// sealed is a packet of the end on the other side of e, with a number.
func sealed(t *testing.T, e api.End, n uint64, plain []byte) api.Packet {
	t.Helper()
	p, err := packet.Seal(e.Session.Secret, 1-e.Way, e.Session.ID, e.Epoch, n, plain)
	if err != api.OK {
		t.Fatal(err)
	}
	return p
}

// P16.2: Send, and Knock of P16.3

func TestSend(t *testing.T) {
	known := map[api.Errno]int{}
	for _, e := range append(ends(), faulty()...) {
		for _, n := range []int{0, 1, 20} {
			p, want, why := sent(e, some(n))
			known[why]++
			if why != api.OK {
				notSent(t, e, some(n), why)
				continue
			}
			got, after := sends(t, e, some(n))
			if !packet.Same(got, p) || after != want || got.Count != e.Out.Next || got.Epoch != e.Epoch || got.Session != e.Session.ID {
				t.Fatalf("%v: %v %v", e, got, after)
			}
		}
	}
	for _, why := range []api.Errno{api.OK, api.ErrArg, api.ErrNone} {
		if known[why] < 100 {
			t.Error(known)
		}
	}
}

func TestSendOfManyBytes(t *testing.T) {
	for _, n := range []int{1000, 65535, 65536} {
		for _, way := range []int{0, 1} {
			e := used()
			e.Way = way
			p, _ := sends(t, e, some(n))
			other := caller(t)
			other.Epoch, other.Way = 7, 1-way
			receives(t, other, p, some(n))
		}
	}
	for _, n := range []int{65537, 65538, 1 << 17} {
		notSent(t, used(), some(n), api.ErrLong)
	}
}

func TestSendNamesItsErrorsInOrder(t *testing.T) {
	none := used()
	none.Out.Next = 17
	notSent(t, none, some(65536), api.ErrNone)
	notSent(t, none, some(65537), api.ErrLong)
	for _, change := range faults() {
		e := none
		change(&e)
		notSent(t, e, some(65537), api.ErrArg)
		notSent(t, e, nil, api.ErrArg)
	}
}

func TestSendUntilNothingIsLeased(t *testing.T) {
	e := gateway(t, 5)
	for next := uint64(1); next < 30; next++ {
		if r, ok := session.Leases(e); ok {
			notSent(t, e, some(3), api.ErrNone)
			e = grants(t, e, r)
		}
		p, after := sends(t, e, some(3))
		if p.Count != next || after.Out.Leased != (next+4)/5*5 {
			t.Fatal(p, after)
		}
		e = after
	}
}

func TestKnock(t *testing.T) {
	for _, e := range append(ends(), faulty()...) {
		want, after, why := sent(e, nil)
		p, got, err := session.Knock(e)
		if err != why || !packet.Same(p, want) || got != after || why == api.OK && len(p.Body) != 16 {
			t.Fatalf("%v: %v %v %d", e, p, got, err)
		}
	}
	g := used()
	p, g, _ := session.Knock(g)
	c := caller(t)
	c.Epoch = 7
	receives(t, c, p, nil)
	if again, _, _ := session.Knock(g); again.Count != p.Count+1 {
		t.Error(again)
	}
}

// P16.2: Receive

// counts are the numbers at which e may receive something, or not.
func counts(e api.End) []uint64 {
	all := []uint64{1, 2, 3, 6, 7, 70, 71, most - 1, most}
	for _, x := range []uint64{e.In.Floor, e.In.Top, e.In.Limit, e.In.Top - 64, e.In.Top - 63, e.In.Top - 5, e.In.Limit + 64} {
		all = append(all, x-1, x, x+1)
	}
	return all
}

// packets are such as e should receive, with each of its counts, and such as it should not, for one reason or for several.
func packets(t *testing.T, e api.End) []api.Packet {
	t.Helper()
	var all []api.Packet
	for _, n := range counts(e) {
		if n < 1 || n > most {
			continue
		}
		p := sealed(t, e, n, some(3))
		broken := sealed(t, e, n, some(3))
		broken.Body[18] ^= 1
		for _, p := range []api.Packet{p, broken} {
			for _, session := range []uint64{0, p.Session, p.Session ^ 1, p.Session ^ 1<<63} {
				for _, epoch := range []uint32{0, p.Epoch - 1, p.Epoch, p.Epoch + 1} {
					q := p
					q.Session, q.Epoch = session, epoch
					all = append(all, q)
				}
			}
		}
	}
	return all
}

func TestReceive(t *testing.T) {
	known := map[api.Errno]int{}
	check := func(e api.End, p api.Packet) {
		plain, _, why := received(e, p)
		known[why]++
		if why == api.OK {
			receives(t, e, p, plain)
		} else {
			notReceived(t, e, p, why)
		}
	}
	for i, e := range ends() {
		for j, p := range packets(t, e) {
			if i < 3 || (i+j)%5 == 0 {
				check(e, p)
			}
		}
	}
	for _, change := range faults() {
		e := used()
		change(&e)
		for i, p := range packets(t, used()) {
			if i%9 == 0 {
				check(e, p)
			}
		}
	}
	for _, why := range []api.Errno{api.OK, api.ErrArg, api.ErrOld, api.ErrThere, api.ErrFull, api.ErrWho, api.ErrTag} {
		if known[why] < 50 {
			t.Error(why, known)
		}
	}
}

// Of what stands against a packet, the first counts, in the order of the chapter: each pair of two is tried, but for those that
// change the same part.
func TestReceiveNamesItsErrorsInOrder(t *testing.T) {
	against := []struct {
		part   string
		change func(*api.End, *api.Packet)
		why    api.Errno
	}{
		{"end", func(e *api.End, p *api.Packet) { e.Stock = 0 }, api.ErrArg},
		{"packet", func(e *api.End, p *api.Packet) { p.Peer = 5 }, api.ErrArg},
		{"session", func(e *api.End, p *api.Packet) { e.Session.ID++ }, api.ErrWho},
		{"epoch", func(e *api.End, p *api.Packet) { e.Epoch++ }, api.ErrOld},
		{"epoch", func(e *api.End, p *api.Packet) { e.Epoch-- }, api.ErrArg},
		{"window", func(e *api.End, p *api.Packet) { e.In = api.Window{Floor: 81, Top: 80, Limit: 81} }, api.ErrOld},
		{"window", func(e *api.End, p *api.Packet) { e.In.Top, e.In.Seen = 80, 1 }, api.ErrThere},
		{"bytes", func(e *api.End, p *api.Packet) { p.Body[0] ^= 1 }, api.ErrTag},
		{"window", func(e *api.End, p *api.Packet) { e.In.Limit = 80 }, api.ErrFull},
	}
	for i, a := range against {
		for _, b := range against[i:] {
			e := used()
			p := sealed(t, e, 80, some(5))
			a.change(&e, &p)
			if a.part != b.part {
				b.change(&e, &p)
			}
			notReceived(t, e, p, a.why)
		}
	}
}

func TestReceiveNamesOneErrorAheadOfTheNext(t *testing.T) {
	g := used()
	good := sealed(t, g, 80, some(5))
	broken := sealed(t, g, 80, some(5))
	broken.Body[3] ^= 128
	faulty := g
	faulty.Out.Next = 0
	of := func(p api.Packet, change func(*api.Packet)) api.Packet {
		change(&p)
		return p
	}
	notReceived(t, faulty, good, api.ErrArg)
	notReceived(t, faulty, of(good, func(p *api.Packet) { p.Session = 4 }), api.ErrArg)
	notReceived(t, faulty, of(good, func(p *api.Packet) { p.Epoch = 4 }), api.ErrArg)
	notReceived(t, g, of(good, func(p *api.Packet) { p.Session, p.Peer = 4, 1 }), api.ErrArg)
	notReceived(t, g, of(good, func(p *api.Packet) { p.Session, p.Count = 4, most+1 }), api.ErrArg)
	notReceived(t, g, of(good, func(p *api.Packet) { p.Session, p.Body = 4, p.Body[:15] }), api.ErrArg)
	notReceived(t, g, api.Packet{Kind: api.PktWho, Session: 4}, api.ErrArg)
	notReceived(t, g, api.Packet{Kind: api.PktWho, Session: 9}, api.ErrArg)
	notReceived(t, g, api.Packet{Kind: api.PktHello, Peer: 3}, api.ErrArg)
	notReceived(t, g, api.Packet{Kind: api.PktAnswer, Session: 9, Epoch: 6}, api.ErrArg)
	notReceived(t, g, of(good, func(p *api.Packet) { p.Session, p.Epoch = 4, 6 }), api.ErrWho)
	notReceived(t, g, of(good, func(p *api.Packet) { p.Session, p.Epoch = 4, 8 }), api.ErrWho)
	notReceived(t, g, of(good, func(p *api.Packet) { p.Session, p.Count = 4, 70 }), api.ErrWho)
	notReceived(t, g, of(good, func(p *api.Packet) { p.Epoch, p.Count = 6, 70 }), api.ErrOld)
	notReceived(t, g, of(good, func(p *api.Packet) { p.Epoch, p.Count = 8, 70 }), api.ErrArg)
	notReceived(t, g, of(good, func(p *api.Packet) { p.Epoch, p.Count = 8, 2 }), api.ErrArg)
	notReceived(t, g, of(broken, func(p *api.Packet) { p.Count = 70 }), api.ErrThere)
	notReceived(t, g, of(broken, func(p *api.Packet) { p.Count = 6 }), api.ErrOld)
	notReceived(t, g, of(broken, func(p *api.Packet) { p.Count = 90 }), api.ErrTag)
	notReceived(t, g, broken, api.ErrTag)
	notReceived(t, g, sealed(t, g, 90, some(5)), api.ErrFull)
	receives(t, g, good, some(5))
}

// A packet of which a bit is another one is not received.
func TestReceiveOfChangedBytes(t *testing.T) {
	g := used()
	for _, n := range []uint64{80, 95} {
		p := sealed(t, g, n, some(20))
		for i := range p.Body {
			for bit := range 8 {
				q := p
				q.Body = bytes.Clone(p.Body)
				q.Body[i] ^= 1 << bit
				notReceived(t, g, q, api.ErrTag)
			}
		}
	}
	p := sealed(t, g, 80, some(20))
	for n := range p.Body {
		q := p
		q.Body = p.Body[:n]
		why := api.ErrTag
		if n < 16 {
			why = api.ErrArg
		}
		notReceived(t, g, q, why)
	}
	for bit := range 7 {
		q := p
		q.Count ^= 1 << bit
		if _, _, why := received(g, q); why == api.OK {
			t.Fatal(q.Count)
		} else {
			notReceived(t, g, q, why)
		}
	}
}

// Nobody but the other end has what is received: not another secret, another session, another epoch, nor the end itself.
func TestNobodyElseSendsOrReceives(t *testing.T) {
	for _, way := range []int{0, 1} {
		e := used()
		e.Way, e.Out = way, api.Counter{Next: 80, Leased: 89}
		other := e
		other.Way = 1 - way
		p, _ := sends(t, e, []byte("for the other end alone"))
		receives(t, other, p, []byte("for the other end alone"))
		notReceived(t, e, p, api.ErrTag)
		for i, change := range changes() {
			x := other
			change(&x)
			if x.Session.Secret != other.Session.Secret {
				notReceived(t, x, p, api.ErrTag)
				q, _ := sends(t, flipped(x), nil)
				notReceived(t, other, q, api.ErrTag)
			} else if b, _, err := session.Receive(x, p); err == api.OK && (x.Session.ID != other.Session.ID || x.Epoch != other.Epoch || x.Way != other.Way) {
				t.Fatalf("change %d: %x", i, b)
			}
		}
	}
}

// flipped is the end on the other side of e.
func flipped(e api.End) api.End {
	e.Way = 1 - e.Way
	return e
}

// Packets in any order are received once each, as long as the window has a bit for them.
func TestReceiveInAnyOrder(t *testing.T) {
	g := gateway(t, 8)
	var all []api.Packet
	p := caller(t)
	for i := range 5 {
		var q api.Packet
		q, p = sends(t, p, some(i))
		all = append(all, q)
	}
	var permute func(e api.End, left []int)
	permute = func(e api.End, left []int) {
		for i, x := range left {
			if r, ok := session.Limits(e, all[x].Count); ok {
				notReceived(t, e, all[x], api.ErrFull)
				e = grants(t, e, r)
			}
			after := receives(t, e, all[x], some(x))
			notReceived(t, after, all[x], api.ErrThere)
			permute(after, append(append([]int(nil), left[:i]...), left[i+1:]...))
		}
	}
	permute(g, []int{0, 1, 2, 3, 4})
}

func TestTheVeryLastPacket(t *testing.T) {
	p, g := caller(t), gateway(t, 65536)
	p.Out.Next = most
	q, p := sends(t, p, some(9))
	notSent(t, p, nil, api.ErrNone)
	notReceived(t, g, q, api.ErrFull)
	r, ok := session.Limits(g, q.Count)
	if !ok || r.Upto != most+1 {
		t.Fatal(r)
	}
	g = grants(t, g, r)
	g = receives(t, g, q, some(9))
	notReceived(t, g, q, api.ErrThere)
	q.Count = math.MaxUint64
	notReceived(t, g, q, api.ErrArg)
}
