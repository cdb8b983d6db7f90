package oplog

import (
	"slices"

	"drawbridge/api"
	"drawbridge/record"
	"drawbridge/wire"
)

// State returns the base with the entries up to an index applied: the error of record.Check, ErrNone if the index is not there.
func State(k api.Kept, index uint64) (api.Base, api.Errno) {
	if e := record.Check(k); e != api.OK {
		return api.Base{}, e
	}
	if !isThere(k, index) {
		return api.Base{}, api.ErrNone
	}
	b := copiedBase(k.Base)
	for _, e := range cutAfter(k, index).Entries {
		// The entries of a valid state continue its base.
		b, _ = record.Enter(b, e)
	}
	return b, api.OK
}

// Compact returns the record of the state at an index, if it is above that of the base: the error of State.
func Compact(k api.Kept, index uint64) ([]api.Record, api.Errno) {
	b, e := State(k, index)
	if e != api.OK || index == k.Base.Index {
		return nil, e
	}
	return []api.Record{{Kind: api.RecBase, Base: b}}, api.OK
}

// Have returns the state after all records: the error of record.Check, or the first error of record.Do.
func Have(k api.Kept, l []api.Record) (api.Kept, api.Errno) {
	if e := record.Check(k); e != api.OK {
		return api.Kept{}, e
	}
	after := copied(k)
	for _, r := range l {
		next, e := record.Do(after, r)
		if e != api.OK {
			return api.Kept{}, e
		}
		after = next
	}
	return after, api.OK
}

// Prefix reports whether an index is in both, with the same entries up to it, as far as both have some, and the same state.
func Prefix(a, b api.Kept, index uint64) bool {
	x, e := State(a, index)
	y, f := State(b, index)
	if e != api.OK || f != api.OK {
		return false
	}
	// The one with the later base has no entries up to that.
	from := max(a.Base.Index, b.Base.Index)
	of := func(k api.Kept) []api.Entry { return entriesAfter(cutAfter(k, index), from) }
	return slices.EqualFunc(of(a), of(b), wire.SameEntry) && record.Same(api.Kept{Base: x}, api.Kept{Base: y})
}

// copied returns a copy that shares no memory with k.
func copied(k api.Kept) api.Kept {
	k.Base = copiedBase(k.Base)
	k.Entries = clone(k.Entries)
	k.Flows = clone(k.Flows)
	return k
}

// copiedBase returns a copy that shares no memory with b.
func copiedBase(b api.Base) api.Base {
	b.Config = api.Config{Peers: clone(b.Config.Peers), Routes: clone(b.Config.Routes)}
	b.Sessions = clone(b.Sessions)
	b.Refs = clone(b.Refs)
	return b
}
