package record_test

import (
	"bytes"
	"maps"
	"math/big"
	"slices"

	"drawbridge/api"
	"drawbridge/config"
	"drawbridge/lease"
	"drawbridge/window"
	"drawbridge/wire"
)

// The second reading of the chapter: what is valid by its sentences, tables as maps that know no order, the log as what
// remains of all its entries, and a state that is not valid as the reason of ErrArg.

const (
	mostSessions = 64
	mostRefs     = 64
	mostEntries  = 1024
	mostFlows    = 1024
	mostCounter  = 1 << 60
)

// rise reports whether each number is above 0 and above all those before it.
func rise(ids []uint64) bool {
	for i, id := range ids {
		if id == 0 || i > 0 && slices.Max(ids[:i]) >= id {
			return false
		}
	}
	return true
}

func sessionIDs(l []api.Session) []uint64 {
	var ids []uint64
	for _, s := range l {
		ids = append(ids, s.ID)
	}
	return ids
}

func flowIDs(l []api.Flow) []uint64 {
	var ids []uint64
	for _, f := range l {
		ids = append(ids, f.ID)
	}
	return ids
}

// validBase is the chapter's sentence about a base.
func validBase(b api.Base) bool {
	initial := b.Index == 0 && b.Epoch == 0
	begun := b.Index > 0 && b.Epoch > 0
	peers := true
	for _, s := range b.Sessions {
		peers = peers && s.Peer > 0 && s.Peer < 65537
	}
	return (initial || begun) && config.Check(b.Config) == api.OK && peers && rise(sessionIDs(b.Sessions)) &&
		len(b.Sessions) <= mostSessions && len(b.Refs) <= mostRefs
}

// follows reports whether e is a valid entry, and the one after that with the index, whose epoch is not above its own.
func follows(e api.Entry, index uint64, epoch uint32) bool {
	next := new(big.Int).Add(new(big.Int).SetUint64(index), big.NewInt(1))
	return wire.CheckEntry(e) == api.OK && next.Cmp(new(big.Int).SetUint64(e.Index)) == 0 && epoch <= e.Epoch
}

// within is the chapter's sentence about a state, but for how many entries and flows there are.
func within(k api.Kept) bool {
	if !validBase(k.Base) || k.Own > k.Term || k.Base.Epoch > k.Term || !rise(flowIDs(k.Flows)) {
		return false
	}
	for i, e := range k.Entries {
		index, epoch := k.Base.Index, k.Base.Epoch
		if i > 0 {
			index, epoch = k.Entries[i-1].Index, k.Entries[i-1].Epoch
		}
		if !follows(e, index, epoch) || e.Epoch > k.Term {
			return false
		}
	}
	for _, f := range k.Flows {
		if k.Own == 0 || lease.Check(f.Out) != api.OK || window.Check(f.In) != api.OK {
			return false
		}
	}
	return true
}

// crowded reports whether there are too many entries, or flows.
func crowded(k api.Kept) bool {
	return len(k.Entries) > mostEntries || len(k.Flows) > mostFlows
}

// valid is the chapter's sentence about a state.
func valid(k api.Kept) bool {
	return within(k) && !crowded(k)
}

// fields has the names of the fields of r that are not zero.
func fields(r api.Record) []string {
	var names []string
	for name, is := range map[string]bool{"Epoch": r.Epoch != 0, "Index": r.Index != 0, "Session": r.Session != 0, "Upto": r.Upto != 0,
		"Entry": r.Entry != api.Entry{}, "Base": !empty(r.Base)} {
		if is {
			names = append(names, name)
		}
	}
	slices.Sort(names)
	return names
}

// empty reports whether all of b is zero.
func empty(b api.Base) bool {
	return b.Index == 0 && b.Epoch == 0 && len(b.Config.Peers) == 0 && len(b.Config.Routes) == 0 && len(b.Sessions) == 0 && len(b.Refs) == 0
}

// validRecord is the chapter's table of what the kinds have.
func validRecord(r api.Record) bool {
	switch got := fields(r); r.Kind {
	case 1, 2:
		return slices.Equal(got, []string{"Epoch"})
	case 3:
		return slices.Equal(got, []string{"Entry"}) && wire.CheckEntry(r.Entry) == api.OK
	case 4:
		return slices.Equal(got, []string{"Index"})
	case 5:
		return slices.Equal(got, []string{"Base"}) && validBase(r.Base)
	case 6:
		return slices.Equal(got, []string{"Session", "Upto"}) && r.Upto <= mostCounter
	case 7:
		return slices.Equal(got, []string{"Session", "Upto"}) && r.Upto <= mostCounter+1
	}
	return false
}

// sorted is what a table has, in ascending order of ID.
func sorted[T any](table map[uint64]T) []T {
	var l []T
	for _, id := range slices.Sorted(maps.Keys(table)) {
		l = append(l, table[id])
	}
	return l
}

// entered is the chapter's sentence about applying an entry.
func entered(b api.Base, e api.Entry) (api.Base, api.Errno) {
	if !validBase(b) || !follows(e, b.Index, b.Epoch) {
		return api.Base{}, api.ErrArg
	}
	had := map[uint64]api.Session{}
	for _, s := range b.Sessions {
		had[s.ID] = s
	}
	n := copyBase(b)
	n.Index, n.Epoch = e.Index, e.Epoch
	switch {
	case e.Kind == 1 && slices.Contains(b.Refs, e.Op.Ref):
	case e.Kind == 1:
		n.Refs = append(n.Refs, e.Op.Ref)
		n.Refs = n.Refs[max(0, len(n.Refs)-mostRefs):]
		if c, e2 := config.Do(b.Config, e.Op); e2 == api.OK {
			n.Config = c
			maps.DeleteFunc(had, func(_ uint64, s api.Session) bool { return s.Peer == e.Op.ID && (e.Op.Kind == 2 || e.Op.Kind == 3) })
		}
	case e.Kind == 2:
		at := slices.IndexFunc(b.Config.Peers, func(m api.Member) bool { return m.ID == e.Session.Peer && !m.Off })
		if at < 0 {
			break
		}
		if _, there := had[e.Session.ID]; !there && len(had) == mostSessions {
			delete(had, slices.Min(slices.Collect(maps.Keys(had))))
		}
		had[e.Session.ID] = e.Session
	default:
		delete(had, e.Session.ID)
	}
	n.Sessions = sorted(had)
	return n, api.OK
}

// done is the chapter's table of what the kinds of records do.
func done(k api.Kept, r api.Record) (api.Kept, api.Errno) {
	if !valid(k) || !validRecord(r) {
		return api.Kept{}, api.ErrArg
	}
	n := copyKept(k)
	possible := true
	switch r.Kind {
	case 1:
		possible = r.Epoch > k.Term
		n.Term = r.Epoch
	case 2:
		possible = r.Epoch > k.Own && r.Epoch >= k.Term
		n.Own, n.Term, n.Flows = r.Epoch, r.Epoch, nil
	case 3:
		n.Entries = append(n.Entries, r.Entry)
	case 4:
		possible = r.Index > k.Base.Index
		n.Entries = slices.DeleteFunc(n.Entries, func(e api.Entry) bool { return e.Index >= r.Index })
	case 5:
		possible = r.Base.Index > k.Base.Index && r.Base.Epoch <= k.Term
		led := slices.ContainsFunc(k.Entries, func(e api.Entry) bool { return e.Index == r.Base.Index && e.Epoch == r.Base.Epoch })
		n.Entries = slices.DeleteFunc(n.Entries, func(e api.Entry) bool { return !led || e.Index <= r.Base.Index })
		n.Base = copyBase(r.Base)
	default:
		n.Flows, possible = flowed(n.Flows, r)
	}
	if !possible || !within(n) {
		return api.Kept{}, api.ErrArg
	}
	if crowded(n) {
		return api.Kept{}, api.ErrFull
	}
	return n, api.OK
}

// flowed is l after a RecLease or a RecLimit, and whether that is possible.
func flowed(l []api.Flow, r api.Record) ([]api.Flow, bool) {
	table := map[uint64]api.Flow{}
	for _, f := range l {
		table[f.ID] = f
	}
	f, there := table[r.Session]
	if !there {
		f = api.Flow{ID: r.Session, Out: api.Counter{Next: 1}, In: api.Window{Floor: 1, Limit: 1}}
	}
	was := &f.Out.Leased
	if r.Kind == 7 {
		was = &f.In.Limit
	}
	possible := r.Upto > *was
	*was = r.Upto
	table[r.Session] = f
	return sorted(table), possible
}

// recovered is the chapter's sentence about a crash, with what layers 6 and 7 say of it.
func recovered(k api.Kept) api.Kept {
	n := copyKept(k)
	for i, f := range n.Flows {
		n.Flows[i].Out.Next = f.Out.Leased + 1
		n.Flows[i].In = api.Window{Floor: f.In.Limit, Top: f.In.Limit - 1, Limit: f.In.Limit}
	}
	return n
}

// copyOf is new memory.
func copyOf[T any](l []T) []T {
	return append([]T(nil), l...)
}

func copyBase(b api.Base) api.Base {
	b.Config = api.Config{Peers: copyOf(b.Config.Peers), Routes: copyOf(b.Config.Routes)}
	b.Sessions, b.Refs = copyOf(b.Sessions), copyOf(b.Refs)
	return b
}

func copyKept(k api.Kept) api.Kept {
	k.Base, k.Entries, k.Flows = copyBase(k.Base), copyOf(k.Entries), copyOf(k.Flows)
	return k
}

// Bytes

// number is the bytes of a number (layer 1), by its sentence.
func number(x uint64) []byte {
	p := new(big.Int).SetUint64(x).Bytes()
	return append([]byte{byte(len(p))}, p...)
}

// numbers are the bytes of numbers.
func numbers(all ...uint64) []byte {
	var b []byte
	for _, x := range all {
		b = append(b, number(x)...)
	}
	return b
}

// block is the bytes of a block (layer 1), by its sentence.
func block(b []byte) []byte {
	return append(number(uint64(len(b))), b...)
}

// join is all parts, one after the other.
func join(parts ...[]byte) []byte {
	return bytes.Join(parts, nil)
}

// baseParts are the bytes of what b has, valid or not, part by part.
func baseParts(b api.Base) [][]byte {
	c, _ := config.Bytes(b.Config)
	sessions := number(uint64(len(b.Sessions)))
	for _, s := range b.Sessions {
		sessions = join(sessions, numbers(s.ID, uint64(s.Peer)), s.Secret[:])
	}
	return [][]byte{number(b.Index), number(uint64(b.Epoch)), block(c), sessions, number(uint64(len(b.Refs))), numbers(b.Refs...)}
}

// writtenBase is the chapter's sentence about the bytes of a base.
func writtenBase(b api.Base) []byte {
	return join(baseParts(b)...)
}

// keptParts are the bytes of what k has, valid or not, part by part.
func keptParts(k api.Kept) [][]byte {
	parts := [][]byte{number(uint64(k.Term)), number(uint64(k.Own)), block(writtenBase(k.Base)), number(uint64(len(k.Entries)))}
	for _, e := range k.Entries {
		b, _ := wire.EntryBytes(e)
		parts = append(parts, block(b))
	}
	parts = append(parts, number(uint64(len(k.Flows))))
	for _, f := range k.Flows {
		out := numbers(f.Out.Next, f.Out.Leased)
		in := numbers(f.In.Floor, f.In.Top, f.In.Seen, f.In.Limit)
		parts = append(parts, number(f.ID), block(out), block(in))
	}
	return parts
}

// written is the chapter's sentence about the bytes of a state.
func written(k api.Kept) []byte {
	return join(keptParts(k)...)
}

// recordParts are the bytes of what r has, valid or not, part by part.
func recordParts(r api.Record) [][]byte {
	var body []byte
	switch r.Kind {
	case 3:
		body, _ = wire.EntryBytes(r.Entry)
	case 5:
		body = writtenBase(r.Base)
	}
	return [][]byte{number(uint64(r.Kind)), number(uint64(r.Epoch)), number(r.Index), number(r.Session), number(r.Upto), block(body)}
}

// writtenRecord is the chapter's sentence about the bytes of a record.
func writtenRecord(r api.Record) []byte {
	return join(recordParts(r)...)
}
