package window_test

import (
	"math/rand"
	"testing"

	"drawbridge/api"
	"drawbridge/window"
)

// life is the life of one window: what was accepted, and all windows that it was since more were allowed, or it crashed.
type life struct {
	w        api.Window
	from     uint64 // the first Floor
	since    []api.Window
	accepted map[uint64]bool
}

// newLife is that of a window of which nothing was accepted.
func newLife(w api.Window) *life {
	return &life{w: w, from: w.Floor, since: []api.Window{w}, accepted: map[uint64]bool{}}
}

// becomes changes the window to one that must be valid, and have what was accepted as far as it tells.
func (l *life) becomes(t *testing.T, w api.Window) {
	t.Helper()
	if window.Check(w) != api.OK || !valid(w) {
		t.Fatalf("%x", w)
	}
	for n := w.Floor; n <= w.Top; n++ {
		if w.Top-n < span && window.Seen(w, n) != l.accepted[n] {
			t.Fatalf("%x: %d was accepted: %v", w, n, l.accepted[n])
		}
		// Those from Floor on, of which there may be many, have no bits unless they are near Top.
		if w.Top-n >= span {
			n = w.Top - span
		}
	}
	l.w = w
}

// take takes n, which must be refused for a reason, or be accepted for the first time.
func (l *life) take(t *testing.T, n uint64) {
	t.Helper()
	after, e := window.Take(l.w, n)
	if window.Wants(l.w, n) != (e == api.ErrFull) {
		t.Fatalf("%x: %d %d", l.w, n, e)
	}
	sure := false
	switch e {
	case api.ErrArg:
		sure = n == 0 || n > most
	case api.ErrOld:
		sure = n < l.w.Floor || n+span <= l.w.Top
	case api.ErrThere:
		sure = l.accepted[n]
	case api.ErrFull:
		sure = n >= l.w.Limit
	case api.OK:
		sure = !l.accepted[n] && n >= l.from && n < l.w.Limit && after.Floor == l.w.Floor && after.Limit == l.w.Limit
	}
	if !sure {
		t.Fatalf("%x: take of %d: %x %d", l.w, n, after, e)
	}
	if e == api.OK {
		l.accepted[n] = true
		l.becomes(t, after)
		l.since = append(l.since, after)
	}
}

// allow allows the counters below to.
func (l *life) allow(t *testing.T, to uint64) {
	t.Helper()
	after, e := window.Allow(l.w, to)
	if to <= l.w.Limit && e == api.ErrOld || to > most+1 && e == api.ErrArg {
		return
	}
	if e != api.OK || after.Limit != to || to <= l.w.Limit {
		t.Fatalf("%x: allowing %d: %x %d", l.w, to, after, e)
	}
	l.becomes(t, after)
	l.since = []api.Window{after}
}

// crash recovers from one of the windows with the same Limit, whichever was kept.
func (l *life) crash(t *testing.T, r *rand.Rand) {
	t.Helper()
	kept := l.since[r.Intn(len(l.since))]
	after, e := window.Recover(kept)
	if e != api.OK || after.Limit != l.w.Limit || after.Floor != l.w.Limit {
		t.Fatalf("%x: recovered from %x: %x %d", l.w, kept, after, e)
	}
	l.becomes(t, after)
	l.since = []api.Window{after}
}

// somewhere is a number near to what the window tells, or to what it had before.
func (l *life) somewhere(r *rand.Rand) uint64 {
	switch r.Intn(6) {
	case 0:
		return l.w.Limit + uint64(r.Intn(5)) - 3
	case 1:
		return l.w.Top - uint64(r.Intn(70))
	case 2:
		return l.w.Floor + uint64(r.Intn(9)) - 4
	case 3:
		return l.from + uint64(r.Intn(500))
	default:
		return l.w.Top + uint64(r.Intn(12)) - 3
	}
}

// P7.3

func TestNothingIsAcceptedTwiceOrBeforeItIsAllowed(t *testing.T) {
	r := rand.New(rand.NewSource(73))
	accepted := 0
	for _, first := range []api.Window{window.New(), {Floor: 1000, Top: 999, Limit: 1000}, {Floor: 1000, Top: 999, Limit: 1200},
		{Floor: most - 300, Top: most - 301, Limit: most - 300}, {Floor: most, Top: most - 1, Limit: most}, {Floor: 1<<32 - 20, Top: 1<<32 - 21, Limit: 1<<32 - 10}} {
		for range 150 {
			l := newLife(first)
			for range 300 {
				switch r.Intn(20) {
				case 0, 1:
					l.allow(t, l.w.Limit+uint64(r.Intn(100)))
				case 2:
					l.crash(t, r)
				default:
					l.take(t, l.somewhere(r))
				}
			}
			accepted += len(l.accepted)
		}
	}
	if accepted < 20000 {
		t.Error(accepted)
	}
}

// state is a window, and which of a few counters were accepted, each with a bit.
type state struct {
	w        api.Window
	accepted uint
}

// next are the states to which a step leads; nothing may be accepted twice, or before it is allowed.
func (s state) next(t *testing.T, counters, limits []uint64) []state {
	t.Helper()
	var all []state
	for i, n := range counters {
		w, e := window.Take(s.w, n)
		if e != api.OK {
			refused(t, w, e, refusal(s.w, true, n))
			continue
		}
		if s.accepted>>i&1 == 1 || n >= s.w.Limit {
			t.Fatalf("%x: %d was accepted", s.w, n)
		}
		all = append(all, state{w, s.accepted | 1<<i})
	}
	for _, to := range limits {
		if w, e := window.Allow(s.w, to); e == api.OK {
			all = append(all, state{w, s.accepted})
		}
	}
	w, e := window.Recover(s.w)
	if e != api.OK {
		t.Fatalf("%x: %d", s.w, e)
	}
	return append(all, state{w, s.accepted})
}

// All orders of a few counters, limits and crashes: each state that can be reached is visited once.
func TestAllOrders(t *testing.T) {
	for _, x := range []struct{ counters, limits []uint64 }{
		{[]uint64{1, 2, 3, 4, 5, 6}, []uint64{2, 3, 4, 5, 6, 7}},
		{[]uint64{1, 2, 63, 64, 65, 66, 128, 129, 130}, []uint64{2, 64, 65, 66, 67, 129, 131}},
		{[]uint64{1, 65, 129, 193, 1 << 32, 1<<32 + 64}, []uint64{66, 194, 1<<32 + 1, 1<<32 + 65}},
		{[]uint64{1, most - 64, most - 63, most - 1, most}, []uint64{2, most - 63, most - 62, most, most + 1}},
	} {
		visited := map[state]bool{}
		work := []state{{window.New(), 0}}
		for len(work) > 0 {
			s := work[len(work)-1]
			work = work[:len(work)-1]
			if visited[s] {
				continue
			}
			visited[s] = true
			work = append(work, s.next(t, x.counters, x.limits)...)
		}
		if len(visited) < 50 {
			t.Errorf("%d: only %d", x.counters, len(visited))
		}
	}
}

// takeInOrder allows and takes count counters, as many at once as limit says, each step further than the one before.
func takeInOrder(t *testing.T, w api.Window, count int, step, limit uint64) {
	t.Helper()
	n := w.Floor
	for range count {
		if n > most {
			return
		}
		if window.Wants(w, n) {
			notTook(t, w, n, api.ErrFull)
			w = allowed(t, w, min(n+limit, most+1))
		}
		w = took(t, w, n)
		notTook(t, w, n, api.ErrThere)
		n += step
	}
}

func TestAllAreAcceptedInOrder(t *testing.T) {
	for _, floor := range []uint64{1, 2, 64, 1000, 1<<32 - 100, most - 150, most - 1, most} {
		w := api.Window{Floor: floor, Top: floor - 1, Limit: floor}
		for _, step := range []uint64{1, 2, 63, 64, 65, 1 << 31} {
			for _, limit := range []uint64{1, 2, 16, 64, 65, 1 << 16} {
				takeInOrder(t, w, 200, step, limit)
			}
		}
	}
}

// None of the counters that are less than 64 below the greatest is lost, in whatever order they come.
func TestAllAreAcceptedInOrderBackwards(t *testing.T) {
	for _, floor := range []uint64{1, 2, 65, 1 << 32, most - 63} {
		w := allowed(t, api.Window{Floor: floor, Top: floor - 1, Limit: floor}, floor+span)
		for i := range uint64(span) {
			w = took(t, w, floor+span-1-i)
		}
		for i := range uint64(span) {
			notTook(t, w, floor+i, api.ErrThere)
		}
		if w.Seen != 1<<64-1 {
			t.Errorf("%x", w)
		}
	}
}

func TestAllWithinTheBitsAreAcceptedInAnyOrder(t *testing.T) {
	r := rand.New(rand.NewSource(74))
	for range 100 {
		floor := 1 + uint64(r.Intn(1000))
		w := allowed(t, api.Window{Floor: floor, Top: floor - 1, Limit: floor}, floor+span)
		for _, i := range r.Perm(span) {
			w = took(t, w, floor+uint64(i))
		}
	}
}

// Whatever was taken, recovering comes to the same for each window with that Limit, and refuses all that was allowed.
func TestRecoveringFromAnyWindowWithTheSameLimit(t *testing.T) {
	for _, limit := range []uint64{1, 2, 64, 65, 300, most - 10, most + 1} {
		want := api.Window{Floor: limit, Top: limit - 1, Limit: limit}
		for back := uint64(0); back < min(limit, 200); back++ {
			fresh := api.Window{Floor: limit - back, Top: limit - back - 1, Limit: limit}
			w, e := window.Recover(fresh)
			becomes(t, w, e, want)
			if back == 0 {
				continue
			}
			w, e = window.Recover(took(t, fresh, limit-back))
			becomes(t, w, e, want)
			w, e = window.Recover(took(t, fresh, limit-1))
			becomes(t, w, e, want)
			notTook(t, w, limit-back, api.ErrOld)
		}
	}
}
