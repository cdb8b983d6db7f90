package record

import (
	"math"

	"drawbridge/api"
	"drawbridge/config"
	"drawbridge/lease"
	"drawbridge/octet"
	"drawbridge/window"
	"drawbridge/wire"
)

// Bytes returns the bytes of k: the error of Check.
func Bytes(k api.Kept) ([]byte, api.Errno) {
	if e := Check(k); e != api.OK {
		return nil, e
	}
	// The parts of a valid state are valid, and have bytes.
	base, _ := BaseBytes(k.Base)
	b := appendNumbers(nil, uint64(k.Term), uint64(k.Own))
	b = appendBlock(b, base)
	b = appendNumbers(b, uint64(len(k.Entries)))
	for _, e := range k.Entries {
		entry, _ := wire.EntryBytes(e)
		b = appendBlock(b, entry)
	}
	b = appendNumbers(b, uint64(len(k.Flows)))
	for _, f := range k.Flows {
		out, _ := lease.Bytes(f.Out)
		in, _ := window.Bytes(f.In)
		b = appendNumbers(b, f.ID)
		b = appendBlock(b, out)
		b = appendBlock(b, in)
	}
	return b, api.OK
}

// Read returns the state whose bytes b is; ErrBad if there is none.
func Read(b []byte) (api.Kept, api.Errno) {
	r := octet.New(b)
	k := api.Kept{Term: epoch(r), Own: epoch(r)}
	base, e := ReadBase(r.Block())
	k.Base = base
	for range r.Upto(api.MaxLog) {
		// What is no entry, no counter or no window is read as the zero one, which is not valid.
		entry, _ := wire.ReadEntry(r.Block())
		k.Entries = append(k.Entries, entry)
	}
	for range r.Upto(api.MaxFlows) {
		f := api.Flow{ID: r.Number()}
		f.Out, _ = lease.Read(r.Block())
		f.In, _ = window.Read(r.Block())
		k.Flows = append(k.Flows, f)
	}
	// Bytes writes no state that is not valid. But the zero base is.
	if e != api.OK || r.End() != api.OK || Check(k) != api.OK {
		return api.Kept{}, api.ErrBad
	}
	return k, api.OK
}

// RecordBytes returns the bytes of r: the error of CheckRecord.
func RecordBytes(r api.Record) ([]byte, api.Errno) {
	if e := CheckRecord(r); e != api.OK {
		return nil, e
	}
	var body []byte
	switch r.Kind {
	case api.RecEntry:
		body, _ = wire.EntryBytes(r.Entry)
	case api.RecBase:
		body, _ = BaseBytes(r.Base)
	}
	b := appendNumbers(nil, uint64(r.Kind), uint64(r.Epoch), r.Index, r.Session, r.Upto)
	return appendBlock(b, body), api.OK
}

// ReadRecord returns the record whose bytes b is; ErrBad if there is none.
func ReadRecord(b []byte) (api.Record, api.Errno) {
	r := octet.New(b)
	x := api.Record{
		Kind:    int(r.Upto(api.RecLimit)),
		Epoch:   epoch(r),
		Index:   r.Number(),
		Session: r.Number(),
		Upto:    r.Number(),
	}
	body, foreign := r.Block(), false
	switch x.Kind {
	case api.RecEntry:
		x.Entry, _ = wire.ReadEntry(body)
	case api.RecBase:
		x.Base, _ = ReadBase(body)
	default:
		foreign = len(body) > 0
	}
	// RecordBytes writes no record that is not valid. What is no entry or no base is read as the zero one, which
	// no record has.
	if foreign || r.End() != api.OK || CheckRecord(x) != api.OK {
		return api.Record{}, api.ErrBad
	}
	return x, api.OK
}

// BaseBytes returns the bytes of b: the error of CheckBase.
func BaseBytes(b api.Base) ([]byte, api.Errno) {
	if e := CheckBase(b); e != api.OK {
		return nil, e
	}
	// The configuration of a valid base is valid.
	c, _ := config.Bytes(b.Config)
	p := appendNumbers(nil, b.Index, uint64(b.Epoch))
	p = appendBlock(p, c)
	p = appendNumbers(p, uint64(len(b.Sessions)))
	for _, s := range b.Sessions {
		p = appendNumbers(p, s.ID, uint64(s.Peer))
		p = append(p, s.Secret[:]...)
	}
	p = appendNumbers(p, uint64(len(b.Refs)))
	return appendNumbers(p, b.Refs...), api.OK
}

// ReadBase returns the base whose bytes b is; ErrBad if there is none.
func ReadBase(b []byte) (api.Base, api.Errno) {
	r := octet.New(b)
	x := api.Base{Index: r.Number(), Epoch: epoch(r)}
	c, e := config.Read(r.Block())
	x.Config = c
	for range r.Upto(api.MaxSessions) {
		s := api.Session{ID: r.Number(), Peer: int(r.Upto(api.MaxID))}
		// After an error there are fewer bytes.
		copy(s.Secret[:], r.Fixed(len(s.Secret)))
		x.Sessions = append(x.Sessions, s)
	}
	for range r.Upto(api.MaxRefs) {
		x.Refs = append(x.Refs, r.Number())
	}
	// BaseBytes writes no base that is not valid. But the zero configuration is.
	if e != api.OK || r.End() != api.OK || CheckBase(x) != api.OK {
		return api.Base{}, api.ErrBad
	}
	return x, api.OK
}

func appendNumbers(b []byte, numbers ...uint64) []byte {
	for _, x := range numbers {
		// octet.Number copies all that the number is to follow: it is given nothing.
		b = append(b, octet.Number(nil, x)...)
	}
	return b
}

// appendBlock returns b followed by the block of p, which is never too long for one here.
func appendBlock(b, p []byte) []byte {
	block, _ := octet.Block(nil, p)
	return append(b, block...)
}

func epoch(r *octet.Reader) uint32 {
	return uint32(r.Upto(math.MaxUint32))
}
