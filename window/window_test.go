package window_test

import (
	"math"
	"math/big"
	"math/rand"
	"testing"

	"drawbridge/api"
	"drawbridge/window"
)

const (
	most = 1 << 60 // the greatest counter
	span = 64      // counters that Seen tells of
)

// great is x as a number that no sum overflows.
func great(x uint64) *big.Int {
	return new(big.Int).SetUint64(x)
}

// within reports whether x is from low to high.
func within(x, low, high *big.Int) bool {
	return low.Cmp(x) <= 0 && x.Cmp(high) <= 0
}

// below is x less i, which may be below 0.
func below(x uint64, i int64) *big.Int {
	return new(big.Int).Sub(great(x), big.NewInt(i))
}

// hasBit reports whether bit i of Seen is set.
func hasBit(w api.Window, i int) bool {
	return great(w.Seen).Bit(i) == 1
}

// valid is the chapter's sentence about a valid window.
func valid(w api.Window) bool {
	one, last := big.NewInt(1), great(most+1)
	if !within(great(w.Floor), one, last) || !within(great(w.Limit), great(w.Floor), last) ||
		!within(great(w.Top), below(w.Floor, 1), below(w.Limit, 1)) {
		return false
	}
	if hasBit(w, 0) != (great(w.Top).Cmp(great(w.Floor)) >= 0) {
		return false
	}
	for i := range span {
		if hasBit(w, i) && below(w.Top, int64(i)).Cmp(great(w.Floor)) < 0 {
			return false
		}
	}
	return true
}

// seen is the chapter's sentence about the bits of Seen, whether the window is valid or not.
func seen(w api.Window, n uint64) bool {
	i := new(big.Int).Sub(great(w.Top), great(n))
	return within(i, big.NewInt(0), big.NewInt(span-1)) && hasBit(w, int(i.Int64()))
}

// refusal is the chapter's sentence about the errors of Take, for a window of which it is known whether it is valid.
func refusal(w api.Window, ok bool, n uint64) api.Errno {
	if !ok || n < 1 || n > most {
		return api.ErrArg
	}
	// All numbers are far below the bounds of an int64 now.
	if n < w.Floor || int64(w.Top)-int64(n) >= span {
		return api.ErrOld
	}
	if seen(w, n) {
		return api.ErrThere
	}
	if n >= w.Limit {
		return api.ErrFull
	}
	return api.OK
}

// with is the window that has n too: each bit is asked anew.
func with(w api.Window, n uint64) api.Window {
	after := api.Window{Floor: w.Floor, Top: max(w.Top, n), Limit: w.Limit}
	for i := range uint64(span) {
		if c := after.Top - i; i <= after.Top && (c == n || seen(w, c)) {
			after.Seen += uint64(math.Pow(2, float64(i)))
		}
	}
	return after
}

// becomes checks what a call comes to.
func becomes(t *testing.T, w api.Window, e api.Errno, want api.Window) {
	t.Helper()
	if w != want || e != api.OK {
		t.Fatalf("%x %d and not %x", w, e, want)
	}
}

// refused checks that a call comes to an error, and that nothing is told beside it.
func refused(t *testing.T, w api.Window, e, want api.Errno) {
	t.Helper()
	if w != (api.Window{}) || e != want {
		t.Fatalf("%x %d and not %d", w, e, want)
	}
}

// took checks that n is taken, and returns the window after that.
func took(t *testing.T, w api.Window, n uint64) api.Window {
	t.Helper()
	after, e := window.Take(w, n)
	if e != api.OK || after != with(w, n) || !window.Seen(after, n) {
		t.Fatalf("take of %d from %x: %x %d and not %x", n, w, after, e, with(w, n))
	}
	return after
}

// notTook checks that n is not taken, and that nothing is told beside the error.
func notTook(t *testing.T, w api.Window, n uint64, want api.Errno) {
	t.Helper()
	if after, e := window.Take(w, n); after != (api.Window{}) || e != want {
		t.Fatalf("take of %d from %x: %x %d and not %d", n, w, after, e, want)
	}
}

// allowed is the window after more were allowed, all of which must succeed.
func allowed(t *testing.T, w api.Window, to uint64) api.Window {
	t.Helper()
	after, e := window.Allow(w, to)
	becomes(t, after, e, api.Window{Floor: w.Floor, Top: w.Top, Seen: w.Seen, Limit: to})
	return after
}

// floors, and the numbers by which others are above them.
var (
	floors = []uint64{0, 1, 2, 3, 64, 65, 100, 1 << 32, most - 64, most - 1, most, most + 1, most + 2, 1 << 63, math.MaxUint64}
	steps  = []uint64{0, 1, 2, 5, 62, 63, 64, 65, 66, 127, 128, 1000, 1 << 32, math.MaxUint64 - 1, math.MaxUint64}
)

// bitsOf are words in which something is, or is not, below the Floor of a window with that Top.
func bitsOf(floor, top uint64, r *rand.Rand) []uint64 {
	size := top + 1 - floor
	upto := uint64(1)<<size - 1
	return []uint64{0, 1, 2, 3, 1 << 63, 1<<63 | 1, math.MaxUint64, math.MaxUint64 - 1, upto, upto + 1, upto<<1 | 1,
		1<<size | 1, 1<<(size-1) | 1, 1 << (size - 1), r.Uint64() | 1, r.Uint64()&upto | 1, r.Uint64() & upto}
}

// windows are windows at whose edges something might change, valid or not.
func windows() []api.Window {
	r := rand.New(rand.NewSource(7))
	var all []api.Window
	for _, floor := range floors {
		for _, step := range append([]uint64{math.MaxUint64 - floor, most - floor}, steps...) {
			top := floor + step
			limits := []uint64{0, 1, floor - 1, floor, top - 1, top, top + 1, top + 2, top + 65, most, most + 1, most + 2, math.MaxUint64}
			for _, limit := range limits {
				for _, bits := range bitsOf(floor, top, r) {
					all = append(all, api.Window{Floor: floor, Top: top, Seen: bits, Limit: limit})
				}
			}
		}
	}
	return all
}

// near are counters, and others, at which something might change for the window.
func near(w api.Window) []uint64 {
	all := []uint64{0, 1, 2, most - 1, most, most + 1, most + 2, math.MaxUint64}
	for _, x := range []uint64{w.Floor, w.Top, w.Limit} {
		all = append(all, x-2, x-1, x, x+1, x+2)
	}
	for _, d := range []uint64{5, 33, 62, 63, 64, 65, 66, 127, 128, 129, 1 << 32} {
		all = append(all, w.Top-d, w.Top+d)
	}
	return all
}

// Examples

func TestExamples(t *testing.T) {
	notTook(t, window.New(), 1, api.ErrFull)
	w := allowed(t, window.New(), 100)
	w = took(t, w, 70)
	notTook(t, w, 6, api.ErrOld)
	w = took(t, w, 7)
	notTook(t, w, 70, api.ErrThere)
	w, e := window.Recover(w)
	becomes(t, w, e, api.Window{Floor: 100, Top: 99, Limit: 100})
	notTook(t, w, 99, api.ErrOld)
	w = allowed(t, w, 200)
	took(t, w, 100)
}

// P7.1

func TestNew(t *testing.T) {
	w := window.New()
	becomes(t, w, window.Check(w), api.Window{Floor: 1, Top: 0, Seen: 0, Limit: 1})
	for _, n := range []uint64{1, 2, 64, 65, most} {
		notTook(t, w, n, api.ErrFull)
		if !window.Wants(w, n) || window.Seen(w, n) {
			t.Error(n)
		}
	}
	if window.Wants(w, 0) || window.Seen(w, 0) {
		t.Error("0 is no counter")
	}
	notTook(t, w, 0, api.ErrArg)
}

func TestCheck(t *testing.T) {
	for _, w := range []api.Window{
		{Floor: 1, Top: 0, Limit: 1},
		{Floor: 1, Top: 0, Limit: most + 1},
		{Floor: 1, Top: 1, Seen: 1, Limit: 2},
		{Floor: 1, Top: 2, Seen: 3, Limit: 3},
		{Floor: 1, Top: 2, Seen: 1, Limit: 300},
		{Floor: 1, Top: 64, Seen: math.MaxUint64, Limit: 65},
		{Floor: 1, Top: 63, Seen: math.MaxUint64 >> 1, Limit: 64},
		{Floor: 1, Top: most, Seen: math.MaxUint64, Limit: most + 1},
		{Floor: 100, Top: 99, Limit: 100},
		{Floor: 100, Top: 102, Seen: 5, Limit: 103},
		{Floor: 100, Top: 163, Seen: 1<<63 | 1, Limit: 164},
		{Floor: most, Top: most, Seen: 1, Limit: most + 1},
		{Floor: most + 1, Top: most, Limit: most + 1},
	} {
		if e := window.Check(w); e != api.OK {
			t.Errorf("%x: %d", w, e)
		}
	}
	for _, w := range []api.Window{
		{},
		{Floor: 0, Top: 0, Seen: 1, Limit: 1}, // Floor is below 1
		{Floor: 0, Top: math.MaxUint64, Limit: 1},                           // Floor is below 1
		{Floor: 2, Top: 1, Limit: 1},                                        // Limit is below Floor
		{Floor: 1, Top: 0, Limit: 0},                                        // Limit is below Floor
		{Floor: 1, Top: 5, Seen: 1, Limit: 0},                               // Limit is below Floor, and less 1 above Top
		{Floor: 1, Top: 0, Limit: most + 2},                                 // Limit is too great
		{Floor: most + 2, Top: most + 1, Limit: most + 2},                   // both are
		{Floor: 1, Top: math.MaxUint64, Seen: 1, Limit: math.MaxUint64},     // Limit is too great
		{Floor: 100, Top: 98, Limit: 100},                                   // Top is below Floor - 1
		{Floor: 100, Top: 0, Limit: 100},                                    // Top is below Floor - 1
		{Floor: 1, Top: 1, Seen: 1, Limit: 1},                               // Top is not below Limit
		{Floor: 1, Top: 50, Seen: 1, Limit: 50},                             // Top is not below Limit
		{Floor: 1, Top: math.MaxUint64, Seen: 1, Limit: 5},                  // Top is not below Limit
		{Floor: 1, Top: 1, Seen: 0, Limit: 5},                               // Top was not accepted
		{Floor: 1, Top: 2, Seen: 2, Limit: 5},                               // Top was not accepted
		{Floor: 1, Top: 0, Seen: 1, Limit: 5},                               // nothing was accepted
		{Floor: 100, Top: 99, Seen: 1, Limit: 200},                          // 99 is below Floor
		{Floor: 100, Top: 99, Seen: 1 << 63, Limit: 200},                    // 36 is below Floor
		{Floor: 100, Top: 100, Seen: 3, Limit: 200},                         // 99 is below Floor
		{Floor: 100, Top: 101, Seen: 5, Limit: 200},                         // 99 is below Floor
		{Floor: 100, Top: 162, Seen: 1<<63 | 1, Limit: 200},                 // 99 is below Floor
		{Floor: 1, Top: 63, Seen: 1<<63 | 1, Limit: 64},                     // 0 is below Floor
		{Floor: 1, Top: 5, Seen: 1<<6 | 1, Limit: 64},                       // what is below 0 is below Floor
		{Floor: most + 1, Top: most + 1, Seen: 1, Limit: most + 2},          // beyond all counters
		{Floor: most + 1, Top: most + 1, Seen: 1, Limit: most + 1},          // Top is not below Limit
		{Floor: math.MaxUint64, Top: math.MaxUint64 - 1, Limit: 1},          // Limit is below Floor
		{Floor: math.MaxUint64, Top: math.MaxUint64 - 1, Limit: 1<<64 - 1},  // beyond all counters
		{Floor: 1, Top: 1 << 63, Seen: 1, Limit: 1<<63 + 1},                 // beyond all counters
		{Floor: 1<<63 + 1, Top: 1 << 63, Seen: 0, Limit: 1<<63 + 1},         // beyond all counters
		{Floor: 0, Top: 1 << 32, Seen: math.MaxUint64, Limit: 1<<32 + 1},    // Floor is below 1
		{Floor: 1 << 32, Top: 1<<32 - 2, Seen: 0, Limit: 1<<32 + 1},         // Top is below Floor - 1
		{Floor: 1 << 32, Top: 1 << 32, Seen: 1<<32 | 1, Limit: 1<<32 + 100}, // below Floor
	} {
		if e := window.Check(w); e != api.ErrArg {
			t.Errorf("%x: %d", w, e)
		}
	}
}

func TestCheckOfAllEdges(t *testing.T) {
	known := map[bool]int{}
	for _, w := range windows() {
		ok := valid(w)
		known[ok]++
		if e := window.Check(w); ok != (e == api.OK) || !ok && e != api.ErrArg {
			t.Fatalf("%x: %d", w, e)
		}
	}
	if known[true] < 2000 || known[false] < 20000 {
		t.Error(known)
	}
}

// Each bit of Seen alone, for each number of counters from Floor to Top, is below Floor or not.
func TestCheckOfEachBit(t *testing.T) {
	for _, floor := range []uint64{1, 2, 63, 64, 65, 100, most - 70} {
		for size := range uint64(71) {
			for bit := range uint64(span) {
				w := api.Window{Floor: floor, Top: floor + size - 1, Seen: 1 << bit, Limit: floor + size}
				alone := size > 0 && bit == 0
				if e := window.Check(w); alone != (e == api.OK) {
					t.Fatalf("%x: %d", w, e)
				}
				w.Seen |= 1
				if e := window.Check(w); (bit < size) != (e == api.OK) {
					t.Fatalf("%x: %d", w, e)
				}
			}
		}
	}
}

func TestTakeWantsAndSeenOfAllEdges(t *testing.T) {
	known := map[api.Errno]int{}
	for i, w := range windows() {
		ok := valid(w)
		// Of those that are not valid, a part will do.
		if !ok && i%7 != 0 {
			continue
		}
		for _, n := range near(w) {
			want := refusal(w, ok, n)
			known[want]++
			if want == api.OK {
				took(t, w, n)
			} else {
				notTook(t, w, n, want)
			}
			if window.Wants(w, n) != (want == api.ErrFull) {
				t.Fatalf("%x wants %d: %d", w, n, want)
			}
			if window.Seen(w, n) != seen(w, n) {
				t.Fatalf("%x: %d", w, n)
			}
		}
	}
	for _, e := range []api.Errno{api.OK, api.ErrArg, api.ErrOld, api.ErrThere, api.ErrFull} {
		if known[e] < 1000 {
			t.Error(known)
		}
	}
}

// Each counter from below the last that has a bit up to the Limit and beyond, for words of which each bit matters.
func TestTakeOfEachCounter(t *testing.T) {
	r := rand.New(rand.NewSource(71))
	for _, floor := range []uint64{1, 2, 40, 64, 65, 300, 1 << 32, most - 200, most - 90} {
		for range 12 {
			top := floor + uint64(r.Intn(90))
			w := api.Window{Floor: floor, Top: top, Seen: r.Uint64()&(1<<(top-floor+1)-1) | 1, Limit: top + 1 + uint64(r.Intn(70))}
			w.Limit = min(w.Limit, most+1)
			for n := top - min(top, 70); n < top+150; n++ {
				if want := refusal(w, true, n); want == api.OK {
					took(t, w, n)
				} else {
					notTook(t, w, n, want)
				}
			}
		}
	}
}

func TestTakeMovesTheBits(t *testing.T) {
	w := api.Window{Floor: 1, Top: 100, Seen: 1<<63 | 1<<62 | 1<<31 | 1, Limit: most + 1}
	for _, x := range []struct{ n, seen uint64 }{
		{101, 1<<63 | 1<<32 | 1<<1 | 1},
		{102, 1<<33 | 1<<2 | 1},
		{132, 1<<63 | 1<<32 | 1},
		{133, 1<<33 | 1},
		{162, 1<<62 | 1},
		{163, 1<<63 | 1},
		{164, 1},
		{165, 1},
		{228, 1},
		{100 + 1<<32, 1},
		{101 + 1<<32, 1},
		{most - 1, 1},
		{most, 1},
		{99, 1<<63 | 1<<62 | 1<<31 | 1<<1 | 1},
		{70, 1<<63 | 1<<62 | 1<<31 | 1<<30 | 1},
		{39, 1<<63 | 1<<62 | 1<<61 | 1<<31 | 1},
	} {
		after, e := window.Take(w, x.n)
		becomes(t, after, e, api.Window{Floor: 1, Top: max(100, x.n), Seen: x.seen, Limit: most + 1})
	}
	for _, n := range []uint64{37, 38, 69, 100} {
		notTook(t, w, n, api.ErrThere)
	}
	notTook(t, w, 36, api.ErrOld)
}

func TestTakeNamesItsErrorsInOrder(t *testing.T) {
	w := api.Window{Floor: 10, Top: 100, Seen: 1<<63 | 1, Limit: 101}
	if window.Check(w) != api.OK {
		t.Fatal(w)
	}
	broken := w
	broken.Limit = 100
	for _, n := range []uint64{0, 9, 36, 37, 100, 101, most + 1} {
		notTook(t, broken, n, api.ErrArg)
	}
	notTook(t, w, 0, api.ErrArg)              // and below Floor
	notTook(t, w, most+1, api.ErrArg)         // and not below Limit
	notTook(t, w, math.MaxUint64, api.ErrArg) // and not below Limit
	notTook(t, w, 9, api.ErrOld)              // below Floor, and too old
	notTook(t, w, 10, api.ErrOld)             // too old
	notTook(t, w, 36, api.ErrOld)             // too old
	notTook(t, w, 37, api.ErrThere)           // the oldest that has a bit
	notTook(t, w, 100, api.ErrThere)          // Top
	notTook(t, w, 101, api.ErrFull)           // Limit
	notTook(t, w, most, api.ErrFull)          // the last one
	took(t, w, 38)                            // not seen
	took(t, w, 99)                            // not seen
	took(t, allowed(t, w, 102), 101)          // allowed
	took(t, allowed(t, w, most+1), most)      // allowed
	low := api.Window{Floor: 90, Top: 89, Limit: 100}
	notTook(t, low, 89, api.ErrOld) // below Floor, though at Top
	notTook(t, low, 26, api.ErrOld) // below Floor
	notTook(t, low, 25, api.ErrOld) // below Floor, and too old
}

func TestTheVeryLastCounter(t *testing.T) {
	w := api.Window{Floor: most - 5, Top: most - 6, Limit: most}
	notTook(t, w, most, api.ErrFull)
	w = took(t, w, most-1)
	w = allowed(t, w, most+1)
	w = took(t, w, most)
	notTook(t, w, most, api.ErrThere)
	notTook(t, w, most+1, api.ErrArg)
	if window.Wants(w, most) || window.Wants(w, most+1) {
		t.Error("there are no more counters")
	}
	after, e := window.Allow(w, most+2)
	refused(t, after, e, api.ErrArg)
	after, e = window.Allow(w, most+1)
	refused(t, after, e, api.ErrOld)
	w, e = window.Recover(w)
	becomes(t, w, e, api.Window{Floor: most + 1, Top: most, Limit: most + 1})
	notTook(t, w, most, api.ErrOld)
	notTook(t, w, most+1, api.ErrArg)
	again, e := window.Recover(w)
	becomes(t, again, e, w)
}

func TestAllow(t *testing.T) {
	w := api.Window{Floor: 10, Top: 20, Seen: 9, Limit: 30}
	for _, to := range []uint64{31, 32, 94, 1000, 1 << 32, most - 1, most, most + 1} {
		took(t, allowed(t, w, to), to-1)
	}
	for _, to := range []uint64{0, 1, 10, 20, 29, 30} {
		after, e := window.Allow(w, to)
		refused(t, after, e, api.ErrOld)
	}
	for _, to := range []uint64{most + 2, 1 << 61, math.MaxUint64} {
		after, e := window.Allow(w, to)
		refused(t, after, e, api.ErrArg)
	}
}

func TestAllowOfAllEdges(t *testing.T) {
	for _, w := range windows() {
		ok := valid(w)
		for _, to := range []uint64{0, 1, w.Limit - 1, w.Limit, w.Limit + 1, w.Limit + 64, most, most + 1, most + 2, math.MaxUint64} {
			after, e := window.Allow(w, to)
			switch {
			case !ok || to > most+1:
				refused(t, after, e, api.ErrArg)
			case to <= w.Limit:
				refused(t, after, e, api.ErrOld)
			default:
				becomes(t, after, e, api.Window{Floor: w.Floor, Top: w.Top, Seen: w.Seen, Limit: to})
			}
		}
	}
}

func TestRecoverOfAllEdges(t *testing.T) {
	for _, w := range windows() {
		after, e := window.Recover(w)
		if !valid(w) {
			refused(t, after, e, api.ErrArg)
			continue
		}
		becomes(t, after, e, api.Window{Floor: w.Limit, Top: w.Limit - 1, Limit: w.Limit})
		again, e := window.Recover(after)
		becomes(t, again, e, after)
		if window.Seen(after, w.Top) || window.Seen(after, w.Limit-1) {
			t.Fatalf("%x", after)
		}
	}
}

func TestWants(t *testing.T) {
	w := api.Window{Floor: 10, Top: 100, Seen: 1, Limit: 120}
	for _, n := range []uint64{120, 121, 1000, most} {
		if !window.Wants(w, n) {
			t.Error(n)
		}
	}
	for _, n := range []uint64{0, 1, 9, 10, 36, 37, 99, 100, 101, 119, most + 1, math.MaxUint64} {
		if window.Wants(w, n) {
			t.Error(n)
		}
	}
	w.Seen = 0 // not valid
	if window.Wants(w, 120) || window.Wants(api.Window{}, 1) {
		t.Error("a window that is not valid wants nothing")
	}
}

func TestSeen(t *testing.T) {
	w := api.Window{Floor: 10, Top: 100, Seen: 1<<63 | 1<<10 | 1, Limit: 120}
	for n := range uint64(300) {
		if window.Seen(w, n) != (n == 37 || n == 90 || n == 100) {
			t.Error(n)
		}
	}
	for _, n := range []uint64{100 + 1<<32, 100 + 1<<63, most, math.MaxUint64} {
		if window.Seen(w, n) {
			t.Error(n)
		}
	}
}

// The chapter does not ask for a valid window there: what the bits say is told.
func TestSeenOfWindowsThatAreNotValid(t *testing.T) {
	for _, x := range []struct {
		w  api.Window
		n  uint64
		is bool
	}{
		{api.Window{}, 0, false},
		{api.Window{Seen: 1}, 0, true},
		{api.Window{Seen: math.MaxUint64}, 1, false},
		{api.Window{Seen: math.MaxUint64}, math.MaxUint64, false}, // no bit is of a counter below 0
		{api.Window{Seen: math.MaxUint64}, math.MaxUint64 - 62, false},
		{api.Window{Floor: 100, Top: 99, Seen: 1, Limit: 100}, 99, true},
		{api.Window{Floor: 100, Top: 99, Seen: 2, Limit: 100}, 98, true},
		{api.Window{Top: math.MaxUint64, Seen: 1}, math.MaxUint64, true},
		{api.Window{Top: math.MaxUint64, Seen: 1 << 63}, math.MaxUint64 - 63, true},
		{api.Window{Top: math.MaxUint64, Seen: math.MaxUint64}, math.MaxUint64 - 64, false},
		{api.Window{Top: math.MaxUint64, Seen: math.MaxUint64}, 0, false},
	} {
		if got := window.Seen(x.w, x.n); got != x.is || got != seen(x.w, x.n) {
			t.Errorf("%x %d: %v", x.w, x.n, got)
		}
	}
}
