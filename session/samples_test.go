package session_test

import (
	"math"

	"drawbridge/api"
)

const most = 1 << 60

// bytes32 are 32 bytes that are all unlike.
func bytes32(x byte) (a [32]byte) {
	for i := range a {
		a[i] = x + byte(i)*7
	}
	return a
}

// some are n bytes of all sorts.
func some(n int) []byte {
	b := make([]byte, n)
	for i := range b {
		b[i] = byte(i*i + 5*i + n)
	}
	return b
}

// nine is a session.
func nine() api.Session {
	return api.Session{ID: 9, Peer: 3, Secret: bytes32(5)}
}

// used is an end of a gateway of which something was used.
func used() api.End {
	return api.End{
		Session: nine(),
		Epoch:   7,
		Way:     api.ToPeer,
		Out:     api.Counter{Next: 5, Leased: 16},
		In:      api.Window{Floor: 3, Top: 70, Seen: 1<<63 | 1<<5 | 1, Limit: 90},
		Stock:   32,
	}
}

// outs are valid counters.
func outs() []api.Counter {
	return []api.Counter{{Next: 1}, {Next: 1, Leased: 1}, {Next: 2, Leased: 1}, {Next: 5, Leased: 16}, {Next: 16, Leased: 16}, {Next: 17, Leased: 16},
		{Next: 300, Leased: 1 << 32}, {Next: 1<<32 + 1, Leased: 1 << 32}, {Next: 1, Leased: most}, {Next: most - 32, Leased: most - 33},
		{Next: most - 31, Leased: most - 32}, {Next: most - 30, Leased: most - 31}, {Next: most, Leased: most - 1},
		{Next: most, Leased: most}, {Next: most + 1, Leased: most}}
}

// ins are valid windows.
func ins() []api.Window {
	return []api.Window{{Floor: 1, Limit: 1}, {Floor: 1, Limit: 2}, {Floor: 1, Limit: 300}, {Floor: 1, Top: 5, Seen: 0b10011, Limit: 6},
		{Floor: 1, Top: 5, Seen: 0b10011, Limit: 40}, {Floor: 3, Top: 70, Seen: 1<<63 | 1<<5 | 1, Limit: 90}, {Floor: 33, Top: 32, Limit: 33},
		{Floor: 1, Top: 400, Seen: math.MaxUint64, Limit: 1 << 40}, {Floor: 1, Limit: most + 1}, {Floor: most - 40, Top: most - 35, Seen: 0b101001, Limit: most - 32},
		{Floor: most - 33, Top: most - 34, Limit: most - 31}, {Floor: 1, Top: most - 1, Seen: 1, Limit: most}, {Floor: most - 3, Top: most, Seen: 0b1001, Limit: most + 1},
		{Floor: most + 1, Top: most, Limit: most + 1}}
}

// ends are valid ends of all sorts.
func ends() []api.End {
	var all []api.End
	stocks := []int{1, 2, 32, 33, 64, 65535, 65536}
	for i, out := range outs() {
		for j, in := range ins() {
			e := api.End{Session: nine(), Epoch: 7, Way: (i + j) % 2, Out: out, In: in, Stock: stocks[(i*3+j)%len(stocks)]}
			if (i+j)%3 == 0 {
				e.Session = api.Session{ID: math.MaxUint64 - uint64(j), Peer: 65536, Secret: bytes32(byte(i))}
				e.Epoch = math.MaxUint32 - uint32(i)
			}
			if (i+j)%5 == 0 {
				e.Session, e.Epoch = api.Session{ID: 1, Peer: 1}, 1
			}
			all = append(all, e)
		}
	}
	return all
}

// faults are changes of which each makes any valid end one that is not valid.
func faults() []func(*api.End) {
	all := []func(*api.End){
		func(e *api.End) { *e = api.End{} },
		func(e *api.End) { e.Session.ID = 0 },
		func(e *api.End) { e.Epoch = 0 },
	}
	for _, x := range []int{0, -1, -3, math.MinInt, math.MinInt64 + 3, 65537, 65536 * 2, 1<<32 + 1, 1<<32 - 1, math.MaxInt} {
		all = append(all, func(e *api.End) { e.Session.Peer = x }, func(e *api.End) { e.Stock = x })
	}
	for _, x := range []int{-1, -2, 2, 3, 256, 257, 1 << 32, 1<<32 + 1, math.MinInt, math.MinInt + 1, math.MaxInt} {
		all = append(all, func(e *api.End) { e.Way = x })
	}
	for _, x := range []api.Counter{{}, {Next: 0, Leased: 5}, {Next: 2}, {Next: 18, Leased: 16}, {Next: 1, Leased: most + 1}, {Next: most + 2, Leased: most},
		{Next: 1, Leased: math.MaxUint64}, {Next: 0, Leased: math.MaxUint64}, {Next: math.MaxUint64, Leased: math.MaxUint64}} {
		all = append(all, func(e *api.End) { e.Out = x })
	}
	for _, x := range []api.Window{{}, {Floor: 0, Limit: 1}, {Floor: 2, Top: 1, Limit: 1}, {Floor: 1, Limit: most + 2}, {Floor: 1, Top: 5, Seen: 1, Limit: 5},
		{Floor: 1, Top: 5, Seen: 2, Limit: 9}, {Floor: 3, Top: 1, Limit: 9}, {Floor: 3, Top: 4, Seen: 0b101, Limit: 9}, {Floor: 1, Top: 0, Seen: 1, Limit: 9},
		{Floor: most + 2, Top: most + 1, Limit: most + 2}, {Floor: math.MaxUint64, Top: math.MaxUint64 - 1, Limit: math.MaxUint64}} {
		all = append(all, func(e *api.End) { e.In = x })
	}
	return all
}

// faulty are ends that are not valid, for one reason each.
func faulty() []api.End {
	var all []api.End
	for i, was := range ends() {
		for j, change := range faults() {
			if i < 20 || (i+j)%9 == 0 {
				e := was
				change(&e)
				all = append(all, e)
			}
		}
	}
	return all
}

// changes are changes of which each makes an end another one: each field of each part, and each bit of the secret.
func changes() []func(*api.End) {
	all := []func(*api.End){
		func(e *api.End) { e.Session.ID ^= 1 },
		func(e *api.End) { e.Session.ID ^= 1 << 32 },
		func(e *api.End) { e.Session.ID ^= 1 << 63 },
		func(e *api.End) { e.Session.Peer ^= 1 },
		func(e *api.End) { e.Session.Peer ^= 1 << 40 },
		func(e *api.End) { e.Epoch ^= 1 },
		func(e *api.End) { e.Epoch ^= 1 << 31 },
		func(e *api.End) { e.Way ^= 1 },
		func(e *api.End) { e.Way ^= 1 << 33 },
		func(e *api.End) { e.Stock ^= 1 },
		func(e *api.End) { e.Stock ^= 1 << 34 },
		func(e *api.End) { e.Out.Next ^= 1 },
		func(e *api.End) { e.Out.Next ^= 1 << 60 },
		func(e *api.End) { e.Out.Leased ^= 1 },
		func(e *api.End) { e.Out.Leased ^= 1 << 50 },
		func(e *api.End) { e.In.Floor ^= 1 },
		func(e *api.End) { e.In.Floor ^= 1 << 40 },
		func(e *api.End) { e.In.Top ^= 1 },
		func(e *api.End) { e.In.Top ^= 1 << 41 },
		func(e *api.End) { e.In.Seen ^= 1 },
		func(e *api.End) { e.In.Seen ^= 1 << 63 },
		func(e *api.End) { e.In.Limit ^= 1 },
		func(e *api.End) { e.In.Limit ^= 1 << 60 },
	}
	for i := range 256 {
		all = append(all, func(e *api.End) { e.Session.Secret[i/8] ^= 1 << (i % 8) })
	}
	return all
}
