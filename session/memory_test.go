package session_test

import (
	"bytes"
	"testing"
	"unsafe"

	"drawbridge/api"
	"drawbridge/packet"
	"drawbridge/session"
)

// Rules 3 and 4

const room = 40 // bytes of spare capacity that roomy gives

// roomy is b with spare capacity that is filled.
func roomy(b []byte) []byte {
	n := append(bytes.Clone(b), bytes.Repeat([]byte{77}, room)...)
	return n[:len(b)]
}

// fill writes over b and over its spare capacity.
func fill(b []byte) {
	b = b[:cap(b)]
	for i := range b {
		b[i] = 99
	}
}

// share reports whether two slices, be they without elements, are pieces of the same memory.
func share(a, b []byte) bool {
	from, other := uintptr(unsafe.Pointer(unsafe.SliceData(a))), uintptr(unsafe.Pointer(unsafe.SliceData(b)))
	within := from >= other && from < other+uintptr(cap(b)) || other >= from && other < from+uintptr(cap(a))
	return from != 0 && other != 0 && within
}

// unchanged reports whether a slice that roomy made of was, and what is behind it, is as it was.
func unchanged(b, was []byte) bool {
	return bytes.Equal(b, was) && bytes.Equal(b[:len(b)+room][len(b):], bytes.Repeat([]byte{77}, room))
}

func TestSendIsNewMemory(t *testing.T) {
	for _, n := range []int{0, 1, 15, 16, 17, 300} {
		plain := roomy(some(n))
		want, _, _ := sent(used(), some(n))
		p, after, err := session.Send(used(), plain)
		if share(p.Body, plain) || !unchanged(plain, some(n)) {
			t.Fatal(n)
		}
		fill(plain)
		if err != api.OK || !packet.Same(p, want) {
			t.Fatal(n, p, err)
		}
		q, _, _ := session.Send(used(), some(n))
		if share(p.Body, q.Body) {
			t.Fatal(n)
		}
		fill(p.Body)
		if next, _ := sends(t, after, some(n)); next.Count != p.Count+1 || !packet.Same(q, want) {
			t.Fatal(n, next)
		}
	}
}

func TestReceiveIsNewMemory(t *testing.T) {
	for _, n := range []int{0, 1, 15, 16, 17, 300} {
		p := sealed(t, used(), 80, some(n))
		was := bytes.Clone(p.Body)
		p.Body = roomy(p.Body)
		plain, after, err := session.Receive(used(), p)
		if share(plain, p.Body) || !unchanged(p.Body, was) {
			t.Fatal(n)
		}
		again, _, _ := session.Receive(used(), p)
		if share(plain, again) {
			t.Fatal(n)
		}
		fill(p.Body)
		if err != api.OK || !bytes.Equal(plain, some(n)) {
			t.Fatal(n, plain, err)
		}
		fill(plain)
		receives(t, after, sealed(t, used(), 81, some(n)), some(n))
		if !bytes.Equal(again, some(n)) {
			t.Fatal(n, again)
		}
	}
}

// What is refused is neither changed nor told.
func TestRefusalsChangeNothing(t *testing.T) {
	for _, why := range []func(*api.End, *api.Packet){
		func(e *api.End, p *api.Packet) { e.Stock = 0 },
		func(e *api.End, p *api.Packet) { p.Peer = 1 },
		func(e *api.End, p *api.Packet) { e.Session.ID++ },
		func(e *api.End, p *api.Packet) { e.Epoch++ },
		func(e *api.End, p *api.Packet) { e.Epoch-- },
		func(e *api.End, p *api.Packet) { e.In = api.Window{Floor: 81, Top: 80, Limit: 81} },
		func(e *api.End, p *api.Packet) { p.Body[0] ^= 1 },
		func(e *api.End, p *api.Packet) { e.In.Limit = 80 },
	} {
		e, p := used(), sealed(t, used(), 80, some(20))
		why(&e, &p)
		was := bytes.Clone(p.Body)
		p.Body = roomy(p.Body)
		if plain, _, err := session.Receive(e, p); plain != nil || err == api.OK || !unchanged(p.Body, was) {
			t.Fatal(e, p, plain, err)
		}
	}
	none := used()
	none.Out.Next = 17
	plain := roomy(some(20))
	if p, _, err := session.Send(none, plain); p.Body != nil || err != api.ErrNone || !unchanged(plain, some(20)) {
		t.Fatal(p, err)
	}
}

func TestNilAndEmptyAreTheSame(t *testing.T) {
	p, a, err := session.Send(used(), nil)
	q, b, why := session.Send(used(), []byte{})
	k, c, other := session.Knock(used())
	if !packet.Same(p, q) || !packet.Same(p, k) || a != b || a != c || err != api.OK || why != api.OK || other != api.OK {
		t.Fatal(p, q, k)
	}
	peer := caller(t)
	peer.Epoch = 7
	receives(t, peer, p, nil)
	for _, body := range [][]byte{nil, {}} {
		notReceived(t, used(), api.Packet{Kind: 3, Session: 9, Epoch: 7, Count: 80, Body: body}, api.ErrArg)
		notReceived(t, used(), api.Packet{Kind: api.PktWho, Session: 9, Body: body}, api.ErrArg)
	}
}
