package session

import (
	"drawbridge/api"
	"drawbridge/lease"
	"drawbridge/window"
)

// Leases returns the record that leases Stock more counters, or as many as there are, and true, if nothing is left of those
// that are leased, and there are more.
func Leases(e api.End) (api.Record, bool) {
	x := end{End: e}
	if Check(x.End) != api.OK || lease.Left(x.Out) > 0 {
		return api.Record{}, false
	}
	out, err := lease.Lease(x.Out, uint64(x.Stock))
	if err != api.OK {
		return api.Record{}, false
	}
	return api.Record{Kind: api.RecLease, Session: x.Session.ID, Upto: out.Leased}, true
}

// Limits returns the record that allows n, and what follows it up to a Stock, and true, if n is only not allowed yet.
func Limits(e api.End, n uint64) (api.Record, bool) {
	x := end{End: e}
	if Check(x.End) != api.OK || !window.Wants(x.In, n) {
		return api.Record{}, false
	}
	// What is wanted is a counter: the sum does not overflow.
	upto := min(n+uint64(x.Stock), api.MaxCounter+1)
	return api.Record{Kind: api.RecLimit, Session: x.Session.ID, Upto: upto}, true
}

// Grant returns the end with what r leases or allows: the error of Check, ErrArg if r does not do so for this session, or if
// it is not possible.
func Grant(e api.End, r api.Record) (api.End, api.Errno) {
	x := end{End: e}
	if err := Check(x.End); err != api.OK {
		return api.End{}, err
	}
	if r.Session != x.Session.ID {
		return api.End{}, api.ErrArg
	}
	switch r.Kind {
	case api.RecLease:
		return x.leased(r.Upto)
	case api.RecLimit:
		return x.allowed(r.Upto)
	}
	return api.End{}, api.ErrArg
}

// leased returns the end with counters leased up to a number; ErrArg if so many are leased already, or there are not so many.
func (x end) leased(upto uint64) (api.End, api.Errno) {
	out, err := lease.Lease(x.Out, upto-min(upto, x.Out.Leased))
	// Of more than there are, Lease leases as many as there are: that is not what was made safe.
	if err != api.OK || out.Leased != upto {
		return api.End{}, api.ErrArg
	}
	x.Out = out
	return x.End, api.OK
}

// allowed returns the end that allows numbers below a limit; ErrArg if these are allowed already, or there are not so many.
func (x end) allowed(limit uint64) (api.End, api.Errno) {
	in, err := window.Allow(x.In, limit)
	if err != api.OK {
		return api.End{}, api.ErrArg
	}
	x.In = in
	return x.End, api.OK
}
