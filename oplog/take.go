package oplog

import (
	"drawbridge/api"
	"drawbridge/record"
	"drawbridge/wire"
)

// Take returns the records by which the other node takes a MsgAppend or a MsgBase, and its reply: the error of record.Check,
// ErrArg if m is not a valid one of these, ErrBad if its Body is not the base that it names, ErrFull if there is no room.
func Take(k api.Kept, m api.Msg) ([]api.Record, api.Msg, api.Errno) {
	if e := record.Check(k); e != api.OK {
		return nil, api.Msg{}, e
	}
	if wire.Check(m) != api.OK || m.Kind != api.MsgAppend && m.Kind != api.MsgBase || m.Epoch == 0 {
		return nil, api.Msg{}, api.ErrArg
	}
	// A message that is too old must have a base as well.
	b, e := baseOf(m)
	if e != api.OK {
		return nil, api.Msg{}, e
	}
	if m.Epoch < k.Term {
		return nil, have(k.Term, 0, false), api.OK
	}
	if m.Kind == api.MsgBase {
		l, reply := takeBase(k, b, m.Epoch)
		return l, reply, api.OK
	}
	return takeEntries(k, m)
}

// baseOf returns the base in the Body of a MsgBase; ErrBad if there is none, or not the one that m names.
func baseOf(m api.Msg) (api.Base, api.Errno) {
	if m.Kind != api.MsgBase {
		return api.Base{}, api.OK
	}
	b, e := record.ReadBase(m.Body)
	if e != api.OK || b.Index == 0 || b.Index != m.Index || b.Epoch != m.Prev || b.Epoch > m.Epoch {
		return api.Base{}, api.ErrBad
	}
	return b, api.OK
}

// takeBase returns the records and the reply for a base that was sent in an epoch.
func takeBase(k api.Kept, b api.Base, epoch uint32) ([]api.Record, api.Msg) {
	if b.Index <= k.Base.Index {
		return raise(k, epoch), have(epoch, k.Base.Index, true)
	}
	return append(raise(k, epoch), api.Record{Kind: api.RecBase, Base: b}), have(epoch, b.Index, true)
}

// takeEntries returns the records and the reply for a MsgAppend; ErrFull if there is no room for its entries.
func takeEntries(k api.Kept, m api.Msg) ([]api.Record, api.Msg, api.Errno) {
	if !isThere(k, m.Index) || epochAt(k, m.Index) != m.Prev {
		return raise(k, m.Epoch), have(m.Epoch, lower(k, m.Index), false), api.OK
	}
	index := m.Index + uint64(len(m.Entries))
	// What is there behind these is removed, or had room before.
	if index-k.Base.Index > api.MaxLog {
		return nil, api.Msg{}, api.ErrFull
	}
	return append(raise(k, m.Epoch), replace(k, m.Entries)...), have(m.Epoch, index, true), api.OK
}

// raise returns the record of an epoch, if it is above the highest one that k knows.
func raise(k api.Kept, epoch uint32) []api.Record {
	if epoch <= k.Term {
		return nil
	}
	return []api.Record{{Kind: api.RecTerm, Epoch: epoch}}
}

// replace returns the records after which the log has the entries, of which the first one has an index that continues it.
func replace(k api.Kept, entries []api.Entry) []api.Record {
	for i, e := range entries {
		if !isThere(k, e.Index) {
			return enter(entries[i:])
		}
		if epochAt(k, e.Index) != e.Epoch {
			return append([]api.Record{{Kind: api.RecCut, Index: e.Index}}, enter(entries[i:])...)
		}
	}
	return nil
}

// lower returns the index up to which to try next, where what comes after an index does not fit.
func lower(k api.Kept, index uint64) uint64 {
	top, _ := last(k)
	// There is none below that of the base, not even ahead of 0.
	if index <= k.Base.Index {
		return k.Base.Index
	}
	return min(top, index-1)
}

// have returns the reply up to which index it has what the active node of an epoch has, and whether that fits.
func have(epoch uint32, index uint64, fits bool) api.Msg {
	return api.Msg{Kind: api.MsgHave, Epoch: epoch, Index: index, Is: fits}
}
