package oplog_test

import (
	"maps"
	"slices"

	"drawbridge/api"
	"drawbridge/record"
	"drawbridge/wire"
)

// The second reading of the chapter: a log is a map from indexes to entries, in which all that there is is looked up, and the
// records that are taken come from comparing the map before with that afterwards.

// entriesOf has the entries of k by their index.
func entriesOf(k api.Kept) map[uint64]api.Entry {
	all := map[uint64]api.Entry{}
	for _, e := range k.Entries {
		all[e.Index] = e
	}
	return all
}

// epochsOf has the epochs at all indexes that are there.
func epochsOf(k api.Kept) map[uint64]uint32 {
	all := map[uint64]uint32{k.Base.Index: k.Base.Epoch}
	for _, e := range k.Entries {
		all[e.Index] = e.Epoch
	}
	return all
}

// lastOf is the chapter's sentence about the last entry.
func lastOf(k api.Kept) (uint64, uint32) {
	if record.Check(k) != api.OK {
		return 0, 0
	}
	all := epochsOf(k)
	index := slices.Max(slices.Collect(maps.Keys(all)))
	return index, all[index]
}

// atOf is the chapter's sentence about the epoch at an index.
func atOf(k api.Kept, index uint64) (uint32, bool) {
	if record.Check(k) != api.OK {
		return 0, false
	}
	epoch, there := epochsOf(k)[index]
	return epoch, there
}

// appended is the chapter's sentence about appending.
func appended(k api.Kept, e api.Entry) ([]api.Record, api.Errno) {
	index, _ := lastOf(k)
	e.Index, e.Epoch = index+1, k.Own
	switch {
	case record.Check(k) != api.OK:
		return nil, api.ErrArg
	case k.Own == 0 || k.Own != k.Term:
		return nil, api.ErrState
	case wire.CheckEntry(e) != api.OK:
		return nil, api.ErrArg
	case len(k.Entries) > 1023:
		return nil, api.ErrFull
	}
	return []api.Record{{Kind: 3, Entry: e}}, api.OK
}

// sent is the chapter's sentence about sending.
func sent(k api.Kept, from uint64, most int, upto uint64) (api.Msg, api.Errno) {
	index, _ := lastOf(k)
	switch {
	case record.Check(k) != api.OK:
		return api.Msg{}, api.ErrArg
	case k.Own == 0 || k.Own != k.Term:
		return api.Msg{}, api.ErrState
	case from > index:
		return api.Msg{}, api.ErrNone
	}
	prev, there := epochsOf(k)[from]
	if !there {
		b, _ := record.BaseBytes(k.Base)
		return api.Msg{Kind: 7, Epoch: k.Own, Index: k.Base.Index, Prev: k.Base.Epoch, Body: b}, api.OK
	}
	m := api.Msg{Kind: 2, Epoch: k.Own, Index: from, Prev: prev, Upto: upto}
	for _, e := range k.Entries {
		enough := len(m.Entries) >= 1 && len(m.Entries) >= most || len(m.Entries) == 32
		if e.Index > from && !enough {
			m.Entries = append(m.Entries, e)
		}
	}
	return m, api.OK
}

// isBase reports whether the body of m is the base that it names.
func isBase(m api.Msg) bool {
	b, e := record.ReadBase(m.Body)
	return e == api.OK && m.Index > 0 && b.Index == m.Index && b.Epoch == m.Prev && m.Prev <= m.Epoch
}

// taken is the chapter's sentence about taking.
func taken(k api.Kept, m api.Msg) ([]api.Record, api.Msg, api.Errno) {
	all := epochsOf(k)
	prev, there := all[m.Index]
	last := m.Index + uint64(len(m.Entries))
	switch {
	case record.Check(k) != api.OK || wire.Check(m) != api.OK || m.Epoch == 0 || m.Kind != 2 && m.Kind != 7:
		return nil, api.Msg{}, api.ErrArg
	case m.Kind == 7 && !isBase(m):
		return nil, api.Msg{}, api.ErrBad
	case m.Epoch < k.Term:
		return nil, api.Msg{Kind: 3, Epoch: k.Term}, api.OK
	}
	var l []api.Record
	if m.Epoch > k.Term {
		l = append(l, api.Record{Kind: 1, Epoch: m.Epoch})
	}
	switch {
	case m.Kind == 7 && m.Index > k.Base.Index:
		b, _ := record.ReadBase(m.Body)
		return append(l, api.Record{Kind: 5, Base: b}), api.Msg{Kind: 3, Epoch: m.Epoch, Index: m.Index, Is: true}, api.OK
	case m.Kind == 7:
		return l, api.Msg{Kind: 3, Epoch: m.Epoch, Index: k.Base.Index, Is: true}, api.OK
	case !there || prev != m.Prev:
		// The greatest one that is there below it, if there is any.
		h := api.Msg{Kind: 3, Epoch: m.Epoch, Index: k.Base.Index}
		for index := range all {
			if index < m.Index {
				h.Index = max(h.Index, index)
			}
		}
		return l, h, api.OK
	}
	after := entriesOf(k)
	for _, e := range m.Entries {
		if all[e.Index] == e.Epoch {
			continue
		}
		if after[e.Index].Kind > 0 {
			l = append(l, api.Record{Kind: 4, Index: e.Index})
			maps.DeleteFunc(after, func(index uint64, _ api.Entry) bool { return index >= e.Index })
			clear(all)
		}
		l = append(l, api.Record{Kind: 3, Entry: e})
		after[e.Index] = e
	}
	if len(after) > 1024 {
		return nil, api.Msg{}, api.ErrFull
	}
	return l, api.Msg{Kind: 3, Epoch: m.Epoch, Index: last, Is: true}, api.OK
}

// stateOf is the chapter's sentence about the state at an index.
func stateOf(k api.Kept, index uint64) (api.Base, api.Errno) {
	if record.Check(k) != api.OK {
		return api.Base{}, api.ErrArg
	}
	if _, there := epochsOf(k)[index]; !there {
		return api.Base{}, api.ErrNone
	}
	b, all := copyBase(k.Base), entriesOf(k)
	for b.Index != index {
		b, _ = record.Enter(b, all[b.Index+1])
	}
	return b, api.OK
}

// compacted is the chapter's sentence about Compact.
func compacted(k api.Kept, index uint64) ([]api.Record, api.Errno) {
	b, e := stateOf(k, index)
	if e != api.OK || equalBase(b, k.Base) {
		return nil, e
	}
	return []api.Record{{Kind: 5, Base: b}}, api.OK
}

// hadOf is the chapter's sentence about Have.
func hadOf(k api.Kept, l []api.Record) (api.Kept, api.Errno) {
	if len(l) == 0 {
		if record.Check(k) != api.OK {
			return api.Kept{}, api.ErrArg
		}
		return k, api.OK
	}
	n, e := record.Do(k, l[0])
	if e != api.OK {
		return api.Kept{}, e
	}
	return hadOf(n, l[1:])
}

// prefixOf is the chapter's sentence about Prefix.
func prefixOf(a, b api.Kept, index uint64) bool {
	x, e := stateOf(a, index)
	y, f := stateOf(b, index)
	if e != api.OK || f != api.OK || !equalBase(x, y) {
		return false
	}
	others := entriesOf(b)
	for i, e := range entriesOf(a) {
		if other, there := others[i]; there && i <= index && e != other {
			return false
		}
	}
	return true
}
