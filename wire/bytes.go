package wire

import (
	"math"

	"drawbridge/api"
	"drawbridge/config"
	"drawbridge/octet"
)

// EntryBytes returns the bytes of e: the error of CheckEntry.
func EntryBytes(e api.Entry) ([]byte, api.Errno) {
	if err := CheckEntry(e); err != api.OK {
		return nil, err
	}
	has := entryFields(e.Kind)
	b := appendNumbers(nil, uint64(e.Kind), uint64(e.Epoch), e.Index)
	if has&entryOp != 0 {
		// The Op is valid by now, and its bytes are few.
		op, _ := config.OpBytes(e.Op)
		b, _ = octet.Block(b, op)
	}
	if has&entryID != 0 {
		b = appendNumbers(b, e.Session.ID)
	}
	if has&entryPeer != 0 {
		b = appendNumbers(b, uint64(e.Session.Peer))
	}
	if has&entrySecret != 0 {
		b = append(b, e.Session.Secret[:]...)
	}
	return b, api.OK
}

// ReadEntry returns the entry whose bytes b is; ErrBad if there is none.
func ReadEntry(b []byte) (api.Entry, api.Errno) {
	r := octet.New(b)
	e := api.Entry{Kind: int(r.Upto(api.EntShut)), Epoch: epoch(r), Index: r.Number()}
	has := entryFields(e.Kind)
	if has&entryOp != 0 {
		// What is no operation is read as the zero one, which is not valid.
		e.Op, _ = config.ReadOp(r.Block())
	}
	if has&entryID != 0 {
		e.Session.ID = r.Number()
	}
	if has&entryPeer != 0 {
		e.Session.Peer = int(r.Upto(api.MaxID))
	}
	if has&entrySecret != 0 {
		// After an error there are fewer bytes.
		copy(e.Session.Secret[:], r.Fixed(len(e.Session.Secret)))
	}
	// EntryBytes writes no entry that is not valid.
	if r.End() != api.OK || CheckEntry(e) != api.OK {
		return api.Entry{}, api.ErrBad
	}
	return e, api.OK
}

// Bytes returns the bytes of m: the error of Check.
func Bytes(m api.Msg) ([]byte, api.Errno) {
	if err := Check(m); err != api.OK {
		return nil, err
	}
	b := appendNumbers(nil, uint64(m.Kind), uint64(m.Epoch), m.Index, uint64(m.Prev), m.Upto, m.Ref, uint64(m.Node))
	b = appendNumbers(b, uint64(mask(1, m.Is)), uint64(len(m.Entries)))
	for _, e := range m.Entries {
		// The entries of a valid message are valid, and their bytes are few.
		entry, _ := EntryBytes(e)
		b, _ = octet.Block(b, entry)
	}
	// No Body of a valid message is too long for a block.
	b, _ = octet.Block(b, m.Body)
	return b, api.OK
}

// Read returns the message whose bytes b is; ErrBad if there is none.
func Read(b []byte) (api.Msg, api.Errno) {
	r := octet.New(b)
	m := api.Msg{
		Kind:  int(r.Upto(api.MsgBase)),
		Epoch: epoch(r),
		Index: r.Number(),
		Prev:  epoch(r),
		Upto:  r.Number(),
		Ref:   r.Number(),
		Node:  int(r.Upto(greatestNode)),
		Is:    r.Upto(1) == 1,
	}
	entries, err := readEntries(r)
	if err != api.OK {
		return api.Msg{}, err
	}
	m.Entries, m.Body = entries, r.Block()
	// Bytes writes no message that is not valid.
	if r.End() != api.OK || Check(m) != api.OK {
		return api.Msg{}, api.ErrBad
	}
	return m, api.OK
}

// readEntries returns the entries that r reads next; ErrBad if one of them is none.
func readEntries(r *octet.Reader) ([]api.Entry, api.Errno) {
	var entries []api.Entry
	kept := api.OK
	next := func() bool {
		var e api.Entry
		if e, kept = ReadEntry(r.Block()); kept == api.OK {
			entries = append(entries, e)
		}
		return kept == api.OK
	}
	for range r.Upto(api.MaxEntries) {
		if !next() {
			return nil, kept
		}
	}
	return entries, api.OK
}

func appendNumbers(b []byte, numbers ...uint64) []byte {
	for _, x := range numbers {
		// octet.Number copies all that the number is to follow: it is given nothing.
		b = append(b, octet.Number(nil, x)...)
	}
	return b
}

func epoch(r *octet.Reader) uint32 {
	return uint32(r.Upto(math.MaxUint32))
}
