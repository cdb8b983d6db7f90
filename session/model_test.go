package session_test

import (
	"drawbridge/api"
	"drawbridge/packet"
)

// The second reading of the chapter: what was accepted is a list of numbers, what is allowed and leased are bounds, and each
// function is a list of cases. Only packets are those of layer 9.

// accepted reports whether the bits of w say that n was accepted.
func accepted(w api.Window, n uint64) bool {
	for i := range uint64(64) {
		if w.Seen&(1<<i) != 0 && w.Top-i == n && w.Top >= i {
			return true
		}
	}
	return false
}

// validIn is layer 7's sentence about a valid window.
func validIn(w api.Window) bool {
	if w.Floor < 1 || w.Floor > most+1 || w.Limit < w.Floor || w.Limit > most+1 || w.Top < w.Floor-1 || w.Top > w.Limit-1 {
		return false
	}
	if (w.Seen%2 == 1) != (w.Top >= w.Floor) {
		return false
	}
	for i := range uint64(64) {
		if w.Seen&(1<<i) != 0 && (i > w.Top || w.Top-i < w.Floor) {
			return false
		}
	}
	return true
}

// validOut is layer 6's sentence about a valid counter.
func validOut(c api.Counter) bool {
	return c.Leased <= most && c.Next >= 1 && c.Next <= c.Leased+1
}

// valid is the chapter's sentence about a valid end.
func valid(e api.End) bool {
	named := e.Session.ID >= 1 && e.Session.Peer >= 1 && e.Session.Peer <= 1<<16 && e.Epoch >= 1 && (e.Way == 0 || e.Way == 1)
	return named && e.Stock >= 1 && e.Stock <= 1<<16 && validOut(e.Out) && validIn(e.In)
}

// fresh is the chapter's sentence about new counters.
func fresh(s api.Session, epoch uint32, way, stock int) (api.End, api.Errno) {
	e := api.End{Session: s, Epoch: epoch, Way: way, Stock: stock, Out: api.Counter{Next: 1}, In: api.Window{Floor: 1, Limit: 1}}
	if way == 0 {
		e.Out.Leased, e.In.Limit = most, most+1
	}
	if !valid(e) {
		return api.End{}, api.ErrArg
	}
	return e, api.OK
}

// of is the chapter's sentence about the end of a flow.
func of(s api.Session, epoch uint32, stock int, f api.Flow) (api.End, api.Errno) {
	e := api.End{Session: s, Epoch: epoch, Way: 1, Stock: stock, Out: f.Out, In: f.In}
	if f.ID != s.ID || !valid(e) {
		return api.End{}, api.ErrArg
	}
	return e, api.OK
}

// moved is the chapter's sentence about another epoch.
func moved(e api.End, epoch uint32) (api.End, api.Errno) {
	switch {
	case !valid(e):
		return api.End{}, api.ErrArg
	case epoch <= e.Epoch:
		return api.End{}, api.ErrOld
	}
	return fresh(e.Session, epoch, e.Way, e.Stock)
}

// sent is the chapter's sentence about sending.
func sent(e api.End, plain []byte) (api.Packet, api.End, api.Errno) {
	switch {
	case !valid(e):
		return api.Packet{}, api.End{}, api.ErrArg
	case len(plain) > 1<<16:
		return api.Packet{}, api.End{}, api.ErrLong
	case e.Out.Next > e.Out.Leased:
		return api.Packet{}, api.End{}, api.ErrNone
	}
	p, _ := packet.Seal(e.Session.Secret, e.Way, e.Session.ID, e.Epoch, e.Out.Next, plain)
	e.Out.Next++
	return p, e, api.OK
}

// take is layer 7's sentence about a number that is taken, of a valid window and a valid number.
func take(w api.Window, n uint64) (api.Window, api.Errno) {
	switch {
	case n < w.Floor || n < w.Top && w.Top-n >= 64:
		return api.Window{}, api.ErrOld
	case accepted(w, n):
		return api.Window{}, api.ErrThere
	case n >= w.Limit:
		return api.Window{}, api.ErrFull
	}
	after := api.Window{Floor: w.Floor, Top: max(w.Top, n), Limit: w.Limit}
	for i := range min(uint64(64), after.Top) {
		if x := after.Top - i; x == n || accepted(w, x) {
			after.Seen |= 1 << i
		}
	}
	return after, api.OK
}

// received is the chapter's sentence about receiving.
func received(e api.End, p api.Packet) ([]byte, api.End, api.Errno) {
	if !valid(e) || packet.Check(p) != api.OK || p.Kind != 3 {
		return nil, api.End{}, api.ErrArg
	}
	after, why := take(e.In, p.Count)
	plain, closed := packet.Open(e.Session.Secret, 1-e.Way, p)
	switch {
	case p.Session != e.Session.ID:
		return nil, api.End{}, api.ErrWho
	case p.Epoch < e.Epoch:
		return nil, api.End{}, api.ErrOld
	case p.Epoch > e.Epoch:
		return nil, api.End{}, api.ErrArg
	case why == api.ErrOld || why == api.ErrThere:
		return nil, api.End{}, why
	case closed != api.OK:
		return nil, api.End{}, api.ErrTag
	case why != api.OK:
		return nil, api.End{}, api.ErrFull
	}
	e.In = after
	return plain, e, api.OK
}

// leases is the chapter's sentence about the lease that must be made safe.
func leases(e api.End) (api.Record, bool) {
	if !valid(e) || e.Out.Next <= e.Out.Leased || e.Out.Leased == most {
		return api.Record{}, false
	}
	return api.Record{Kind: 6, Session: e.Session.ID, Upto: min(e.Out.Leased+uint64(e.Stock), most)}, true
}

// limits is the chapter's sentence about the limit that must be made safe.
func limits(e api.End, n uint64) (api.Record, bool) {
	if !valid(e) || n < 1 || n > most {
		return api.Record{}, false
	}
	if _, why := take(e.In, n); why != api.ErrFull {
		return api.Record{}, false
	}
	return api.Record{Kind: 7, Session: e.Session.ID, Upto: min(n+uint64(e.Stock), most+1)}, true
}

// granted is the chapter's sentence about what a record grants.
func granted(e api.End, r api.Record) (api.End, api.Errno) {
	switch {
	case !valid(e) || r.Session != e.Session.ID:
		return api.End{}, api.ErrArg
	case r.Kind == 6 && r.Upto > e.Out.Leased && r.Upto <= most:
		e.Out.Leased = r.Upto
		return e, api.OK
	case r.Kind == 7 && r.Upto > e.In.Limit && r.Upto <= most+1:
		e.In.Limit = r.Upto
		return e, api.OK
	}
	return api.End{}, api.ErrArg
}
