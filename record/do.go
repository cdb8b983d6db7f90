package record

import (
	"slices"

	"drawbridge/api"
	"drawbridge/lease"
	"drawbridge/window"
)

// effect is what a kind of record does: it returns the changed copy. The state and the record are valid, and the state is
// its own to change.
type effect func(api.Kept, api.Record) (api.Kept, api.Errno)

// Do returns the state after r: the errors of Check and of CheckRecord, ErrArg if r is not possible, ErrFull if there is no
// room for it.
func Do(k api.Kept, r api.Record) (api.Kept, api.Errno) {
	if e := Check(k); e != api.OK {
		return api.Kept{}, e
	}
	if e := CheckRecord(r); e != api.OK {
		return api.Kept{}, e
	}
	return effects()[r.Kind](copied(k), r)
}

// effects has the effect of each kind of record.
func effects() [api.RecLimit + 1]effect {
	return [...]effect{
		api.RecTerm:  setTerm,
		api.RecOwn:   setOwn,
		api.RecEntry: addEntry,
		api.RecCut:   cut,
		api.RecBase:  setBase,
		api.RecLease: setLeased,
		api.RecLimit: setLimit,
	}
}

func setTerm(k api.Kept, r api.Record) (api.Kept, api.Errno) {
	if r.Epoch <= k.Term {
		return api.Kept{}, api.ErrArg
	}
	k.Term = r.Epoch
	return k, api.OK
}

func setOwn(k api.Kept, r api.Record) (api.Kept, api.Errno) {
	if r.Epoch <= k.Own || r.Epoch < k.Term {
		return api.Kept{}, api.ErrArg
	}
	k.Own, k.Term = r.Epoch, r.Epoch
	// They were for the epoch that it owned before.
	k.Flows = nil
	return k, api.OK
}

func addEntry(k api.Kept, r api.Record) (api.Kept, api.Errno) {
	index, epoch := last(k.Base, k.Entries)
	if !continues(index, epoch, r.Entry) || r.Entry.Epoch > k.Term {
		return api.Kept{}, api.ErrArg
	}
	if len(k.Entries) == api.MaxLog {
		return api.Kept{}, api.ErrFull
	}
	k.Entries = append(k.Entries, r.Entry)
	return k, api.OK
}

func cut(k api.Kept, r api.Record) (api.Kept, api.Errno) {
	if r.Index <= k.Base.Index {
		return api.Kept{}, api.ErrArg
	}
	k.Entries = slices.Delete(k.Entries, entriesUpto(k, r.Index-1), len(k.Entries))
	return k, api.OK
}

func setBase(k api.Kept, r api.Record) (api.Kept, api.Errno) {
	if r.Base.Index <= k.Base.Index || r.Base.Epoch > k.Term {
		return api.Kept{}, api.ErrArg
	}
	gone := entriesUpto(k, r.Base.Index)
	// What comes after another entry than that which led to the base does not continue it.
	if index, epoch := last(k.Base, k.Entries[:gone]); index != r.Base.Index || epoch != r.Base.Epoch {
		gone = len(k.Entries)
	}
	k.Entries = slices.Delete(k.Entries, 0, gone)
	k.Base = copiedBase(r.Base)
	return k, api.OK
}

func setLeased(k api.Kept, r api.Record) (api.Kept, api.Errno) {
	f := flowOf(k, r.Session)
	if k.Own == 0 || r.Upto <= f.Out.Leased {
		return api.Kept{}, api.ErrArg
	}
	// Both are valid, so that there are so many more to lease.
	f.Out, _ = lease.Lease(f.Out, r.Upto-f.Out.Leased)
	return setFlow(k, f)
}

func setLimit(k api.Kept, r api.Record) (api.Kept, api.Errno) {
	f := flowOf(k, r.Session)
	in, e := window.Allow(f.In, r.Upto)
	if k.Own == 0 || e != api.OK {
		return api.Kept{}, api.ErrArg
	}
	f.In = in
	return setFlow(k, f)
}

// last returns the index and the epoch of the last one of the entries, or of the base that they continue.
func last(b api.Base, entries []api.Entry) (uint64, uint32) {
	if n := len(entries); n > 0 {
		return entries[n-1].Index, entries[n-1].Epoch
	}
	return b.Index, b.Epoch
}

// entriesUpto returns how many of the entries of k have at most that index, which is not below that of its base.
func entriesUpto(k api.Kept, index uint64) int {
	return int(min(index-k.Base.Index, uint64(len(k.Entries))))
}

// flowOf returns the flow of the session, a new one if there is none.
func flowOf(k api.Kept, id uint64) api.Flow {
	if at, there := find(k.Flows, flowID, id); there {
		return k.Flows[at]
	}
	return api.Flow{ID: id, Out: lease.New(), In: window.New()}
}

// setFlow returns k with f in place of what is there of its session; ErrFull if there is no room for it.
func setFlow(k api.Kept, f api.Flow) (api.Kept, api.Errno) {
	if _, there := find(k.Flows, flowID, f.ID); !there && len(k.Flows) == api.MaxFlows {
		return api.Kept{}, api.ErrFull
	}
	k.Flows = with(k.Flows, flowID, f)
	return k, api.OK
}
