package packet

import (
	"math"

	"drawbridge/api"
	"drawbridge/octet"
)

// writer writes the fields of a packet, one behind the other.
type writer struct {
	out []byte
}

func (w *writer) kind(p api.Packet) {
	w.out = octet.Number(w.out, uint64(p.Kind))
}

func (w *writer) peer(p api.Packet) {
	w.out = octet.Number(w.out, uint64(p.Peer))
}

func (w *writer) session(p api.Packet) {
	w.out = octet.Number(w.out, p.Session)
}

func (w *writer) epoch(p api.Packet) {
	w.out = octet.Number(w.out, uint64(p.Epoch))
}

func (w *writer) count(p api.Packet) {
	w.out = octet.Number(w.out, p.Count)
}

func (w *writer) random(p api.Packet) {
	w.out = append(w.out, p.Random[:]...)
}

func (w *writer) mark(p api.Packet) {
	w.out = append(w.out, p.Mark[:]...)
}

func (w *writer) body(p api.Packet) {
	// No Body that is written is too long for a block.
	w.out, _ = octet.Block(w.out, p.Body)
}

// fields has what writes the fields of each kind, in the order of its bytes.
func fields() map[int][]func(*writer, api.Packet) {
	return map[int][]func(*writer, api.Packet){
		api.PktHello:  {(*writer).kind, (*writer).peer, (*writer).random, (*writer).mark},
		api.PktAnswer: {(*writer).kind, (*writer).session, (*writer).epoch, (*writer).random, (*writer).mark},
		api.PktData:   {(*writer).kind, (*writer).session, (*writer).epoch, (*writer).count, (*writer).body},
		api.PktWho:    {(*writer).kind, (*writer).session},
	}
}

// Bytes returns the bytes of p: the error of Check.
func Bytes(p api.Packet) ([]byte, api.Errno) {
	if e := Check(p); e != api.OK {
		return nil, e
	}
	return written(p), api.OK
}

// Read returns the packet whose bytes b is; ErrBad if there is none.
func Read(b []byte) (api.Packet, api.Errno) {
	r := octet.New(b)
	p := api.Packet{Kind: int(r.Upto(api.PktWho))}
	switch p.Kind {
	case api.PktHello:
		p.Peer = int(r.Upto(api.MaxID))
		p.Random, p.Mark = array(r), array(r)
	case api.PktAnswer:
		p.Session, p.Epoch = r.Number(), epoch(r)
		p.Random, p.Mark = array(r), array(r)
	case api.PktData:
		p.Session, p.Epoch, p.Count = r.Number(), epoch(r), r.Number()
		p.Body = clone(r.Block())
	case api.PktWho:
		p.Session = r.Number()
	}
	// Bytes writes no packet that is not valid.
	if r.End() != api.OK || Check(p) != api.OK {
		return api.Packet{}, api.ErrBad
	}
	return p, api.OK
}

// written returns the bytes of p, whose Body may be empty.
func written(p api.Packet) []byte {
	var w writer
	for _, write := range fields()[p.Kind] {
		write(&w, p)
	}
	return w.out
}

func epoch(r *octet.Reader) uint32 {
	return uint32(r.Upto(math.MaxUint32))
}

func array(r *octet.Reader) [16]byte {
	var a [16]byte
	// After an error there are fewer bytes.
	copy(a[:], r.Fixed(len(a)))
	return a
}

// clone returns a copy of b for a Body. It has no spare capacity: packets are copied by assignment, and what is appended to
// the Body of one must not be seen behind that of another.
func clone(b []byte) []byte {
	return append([]byte(nil), b...)[:len(b):len(b)]
}
