package lease_test

import (
	"bytes"
	"math"
	"math/big"
	"math/rand"
	"testing"

	"drawbridge/api"
	"drawbridge/lease"
)

const most = 1 << 60

// numbers are those at which something might change.
func numbers() []uint64 {
	all := []uint64{0, 1, 2, 3, 4, 5, 9, 10, 127, 128}
	for _, shift := range []int{8, 16, 24, 31, 32, 40, 48, 56, 59, 60, 61, 62, 63} {
		x := uint64(1) << shift
		all = append(all, x-2, x-1, x, x+1, x+2)
	}
	return append(all, math.MaxUint64-2, math.MaxUint64-1, math.MaxUint64)
}

// counters are all pairs of numbers, valid or not.
func counters() []api.Counter {
	var all []api.Counter
	for _, next := range numbers() {
		for _, leased := range numbers() {
			all = append(all, api.Counter{Next: next, Leased: leased})
		}
	}
	return all
}

// great is x as a number that no sum overflows.
func great(x uint64) *big.Int {
	return new(big.Int).SetUint64(x)
}

// valid is the chapter's sentence about a valid counter.
func valid(c api.Counter) bool {
	above := new(big.Int).Add(great(c.Leased), big.NewInt(1))
	return great(c.Next).Cmp(big.NewInt(1)) >= 0 && great(c.Next).Cmp(above) <= 0 && great(c.Leased).Cmp(great(most)) <= 0
}

// left is how many numbers from Next to Leased there are.
func left(c api.Counter) uint64 {
	if !valid(c) {
		return 0
	}
	n := new(big.Int).Sub(great(c.Leased), great(c.Next))
	return n.Add(n, big.NewInt(1)).Uint64()
}

// leased is Leased after leasing by further numbers.
func leased(c api.Counter, by uint64) uint64 {
	sum := new(big.Int).Add(great(c.Leased), great(by))
	if sum.Cmp(great(most)) > 0 {
		return most
	}
	return sum.Uint64()
}

// took checks that a number is taken, and returns the counter after that.
func took(t *testing.T, c api.Counter, want uint64) api.Counter {
	t.Helper()
	n, after, e := lease.Take(c)
	if n != want || after != (api.Counter{Next: c.Next + 1, Leased: c.Leased}) || e != api.OK {
		t.Fatalf("take of %d: %d %d %d and not %d", c, n, after, e, want)
	}
	return after
}

// notTook checks that no number is taken, and that nothing is told beside the error.
func notTook(t *testing.T, c api.Counter, want api.Errno) {
	t.Helper()
	if n, after, e := lease.Take(c); n != 0 || after != (api.Counter{}) || e != want {
		t.Fatalf("take of %d: %d %d %d and not %d", c, n, after, e, want)
	}
}

// becomes checks what a call comes to.
func becomes(t *testing.T, c api.Counter, e api.Errno, want api.Counter) {
	t.Helper()
	if c != want || e != api.OK {
		t.Fatalf("%d %d and not %d", c, e, want)
	}
}

// refused checks that a call comes to an error, and that nothing is told beside it.
func refused(t *testing.T, c api.Counter, e, want api.Errno) {
	t.Helper()
	if c != (api.Counter{}) || e != want {
		t.Fatalf("%d %d and not %d", c, e, want)
	}
}

// Examples

func TestExamples(t *testing.T) {
	c, e := lease.Lease(lease.New(), 3)
	becomes(t, c, e, api.Counter{Next: 1, Leased: 3})
	c = took(t, c, 1)
	c = took(t, c, 2)
	c, e = lease.Recover(c)
	becomes(t, c, e, api.Counter{Next: 4, Leased: 3})
	notTook(t, c, api.ErrNone)
	if nonce := lease.Nonce(1, 2); nonce != [12]byte{0, 0, 0, 1, 0, 0, 0, 0, 0, 0, 0, 2} {
		t.Errorf("%x", nonce)
	}
}

// P6.1

func TestNew(t *testing.T) {
	c := lease.New()
	becomes(t, c, lease.Check(c), api.Counter{Next: 1, Leased: 0})
	notTook(t, c, api.ErrNone)
	if n := lease.Left(c); n != 0 {
		t.Error(n)
	}
}

func TestCheck(t *testing.T) {
	for _, c := range []api.Counter{{Next: 1}, {Next: 1, Leased: 1}, {Next: 2, Leased: 1}, {Next: 1, Leased: most},
		{Next: most, Leased: most}, {Next: most + 1, Leased: most}, {Next: most, Leased: most - 1}, {Next: 300, Leased: 1 << 40}} {
		if e := lease.Check(c); e != api.OK {
			t.Errorf("%d: %d", c, e)
		}
	}
	for _, c := range []api.Counter{{}, {Next: 2}, {Leased: 1}, {Leased: most}, {Next: 3, Leased: 1}, {Next: 1, Leased: most + 1},
		{Next: most + 2, Leased: most}, {Next: most + 2, Leased: most + 1}, {Next: 1, Leased: math.MaxUint64},
		{Next: 0, Leased: math.MaxUint64}, {Next: math.MaxUint64, Leased: math.MaxUint64}, {Next: math.MaxUint64, Leased: 5}} {
		if e := lease.Check(c); e != api.ErrArg {
			t.Errorf("%d: %d", c, e)
		}
	}
}

func TestCheckOfAllEdges(t *testing.T) {
	known := map[bool]int{}
	for _, c := range counters() {
		ok := valid(c)
		known[ok]++
		if e := lease.Check(c); ok != (e == api.OK) || !ok && e != api.ErrArg {
			t.Errorf("%d: %d", c, e)
		}
	}
	if known[true] < 500 || known[false] < 500 {
		t.Error(known)
	}
}

func TestTakeOfAllEdges(t *testing.T) {
	for _, c := range counters() {
		switch {
		case !valid(c):
			notTook(t, c, api.ErrArg)
		case c.Next == c.Leased+1:
			notTook(t, c, api.ErrNone)
		default:
			took(t, c, c.Next)
		}
	}
}

func TestTakeUntilNoneIsLeft(t *testing.T) {
	for _, size := range []uint64{1, 2, 3, 100, 1000} {
		c, _ := lease.Lease(lease.New(), size)
		for want := uint64(1); want <= size; want++ {
			if n := lease.Left(c); n != size-want+1 {
				t.Fatal(n, want)
			}
			c = took(t, c, want)
		}
		notTook(t, c, api.ErrNone)
		if n := lease.Left(c); n != 0 {
			t.Fatal(n)
		}
		// More can be leased, and goes on behind.
		c, _ = lease.Lease(c, 1)
		c = took(t, c, size+1)
		notTook(t, c, api.ErrNone)
	}
}

func TestTheVeryLastNumber(t *testing.T) {
	c := api.Counter{Next: most - 1, Leased: most}
	c = took(t, c, most-1)
	c = took(t, c, most)
	notTook(t, c, api.ErrNone)
	after, e := lease.Lease(c, 1)
	refused(t, after, e, api.ErrFull)
	after, e = lease.Recover(c)
	becomes(t, after, e, c)
}

func TestLease(t *testing.T) {
	for _, x := range []struct {
		c      api.Counter
		by     uint64
		leased uint64
	}{
		{api.Counter{Next: 1}, 1, 1},
		{api.Counter{Next: 1}, 16, 16},
		{api.Counter{Next: 1, Leased: 16}, 1, 17},
		{api.Counter{Next: 5, Leased: 16}, 16, 32},
		{api.Counter{Next: 17, Leased: 16}, 16, 32},
		{api.Counter{Next: 1}, most - 1, most - 1},
		{api.Counter{Next: 1}, most, most},
		{api.Counter{Next: 1}, most + 1, most},
		{api.Counter{Next: 1}, math.MaxUint64, most},
		{api.Counter{Next: 3, Leased: 7}, math.MaxUint64, most},
		{api.Counter{Next: 3, Leased: 7}, math.MaxUint64 - 6, most}, // the sum would overflow to 1
		{api.Counter{Next: 9, Leased: most - 3}, 2, most - 1},
		{api.Counter{Next: 9, Leased: most - 3}, 3, most},
		{api.Counter{Next: 9, Leased: most - 3}, 4, most},
		{api.Counter{Next: most, Leased: most - 1}, 1, most},
	} {
		c, e := lease.Lease(x.c, x.by)
		becomes(t, c, e, api.Counter{Next: x.c.Next, Leased: x.leased})
	}
}

func TestLeaseOfAllEdges(t *testing.T) {
	for _, c := range counters() {
		for _, by := range numbers() {
			after, e := lease.Lease(c, by)
			switch {
			case !valid(c):
				refused(t, after, e, api.ErrArg)
			case by == 0:
				refused(t, after, e, api.ErrArg)
			case c.Leased == most:
				refused(t, after, e, api.ErrFull)
			default:
				becomes(t, after, e, api.Counter{Next: c.Next, Leased: leased(c, by)})
			}
		}
	}
}

func TestLeaseNamesItsErrorsInOrder(t *testing.T) {
	full := api.Counter{Next: 5, Leased: most}
	c, e := lease.Lease(full, 0)
	refused(t, c, e, api.ErrArg)
	c, e = lease.Lease(full, 1)
	refused(t, c, e, api.ErrFull)
	c, e = lease.Lease(api.Counter{Next: 0, Leased: most}, 1)
	refused(t, c, e, api.ErrArg)
	c, e = lease.Lease(api.Counter{Next: 1, Leased: most + 1}, 1)
	refused(t, c, e, api.ErrArg)
}

func TestRecoverOfAllEdges(t *testing.T) {
	for _, c := range counters() {
		after, e := lease.Recover(c)
		if !valid(c) {
			refused(t, after, e, api.ErrArg)
			continue
		}
		becomes(t, after, e, api.Counter{Next: c.Leased + 1, Leased: c.Leased})
		again, e := lease.Recover(after)
		becomes(t, again, e, after)
		notTook(t, after, api.ErrNone)
	}
}

func TestLeftOfAllEdges(t *testing.T) {
	for _, c := range counters() {
		if n := lease.Left(c); n != left(c) {
			t.Errorf("%d: %d and not %d", c, n, left(c))
		}
	}
	if n := lease.Left(api.Counter{Next: 1, Leased: most}); n != most {
		t.Error(n)
	}
}

// P6.2

// written is the chapter's sentence about the bytes of both numbers.
func written(c api.Counter) []byte {
	var b []byte
	for _, x := range []uint64{c.Next, c.Leased} {
		p := great(x).Bytes()
		b = append(append(b, byte(len(p))), p...)
	}
	return b
}

func TestBytes(t *testing.T) {
	for _, x := range []struct {
		c api.Counter
		b []byte
	}{
		{api.Counter{Next: 1}, []byte{1, 1, 0}},
		{api.Counter{Next: 3, Leased: 3}, []byte{1, 3, 1, 3}},
		{api.Counter{Next: 300, Leased: 65536}, []byte{2, 1, 44, 3, 1, 0, 0}},
		{api.Counter{Next: most + 1, Leased: most}, []byte{8, 16, 0, 0, 0, 0, 0, 0, 1, 8, 16, 0, 0, 0, 0, 0, 0, 0}},
	} {
		if b, e := lease.Bytes(x.c); !bytes.Equal(b, x.b) || e != api.OK {
			t.Errorf("%d: %x %d and not %x", x.c, b, e, x.b)
		}
		if c, e := lease.Read(x.b); c != x.c || e != api.OK {
			t.Errorf("%x: %d %d and not %d", x.b, c, e, x.c)
		}
	}
}

func TestBytesAndReadOfAllEdges(t *testing.T) {
	seen := map[string]api.Counter{}
	for _, c := range counters() {
		b, e := lease.Bytes(c)
		got, f := lease.Read(written(c))
		if !valid(c) {
			if len(b) != 0 || cap(b) != 0 || e != api.ErrArg {
				t.Errorf("%d: %x %d", c, b, e)
			}
			refused(t, got, f, api.ErrBad)
			continue
		}
		if !bytes.Equal(b, written(c)) || e != api.OK {
			t.Errorf("%d: %x %d", c, b, e)
		}
		becomes(t, got, f, c)
		if other, there := seen[string(b)]; there && other != c {
			t.Errorf("%d and %d: %x", c, other, b)
		}
		seen[string(b)] = c
	}
}

func TestReadOfWrongBytes(t *testing.T) {
	for _, b := range [][]byte{
		nil,
		{1},
		{0},
		{0, 0},                             // Next 0
		{0, 1, 5},                          // Next 0
		{1, 1},                             // Leased is missing
		{1, 1, 1},                          // a byte of Leased is missing
		{1, 1, 2, 1},                       // a byte of Leased is missing
		{1, 1, 0, 0},                       // a byte is left
		{1, 3, 1, 3, 1, 3},                 // a number is left
		{1, 2, 0},                          // Next is above Leased + 1
		{1, 5, 1, 3},                       // Next is above Leased + 1
		{2, 0, 1, 0},                       // a number with a byte too many
		{1, 1, 1, 0},                       // the 0 of Leased has a byte too many
		{1, 1, 2, 0, 1},                    // a number with a byte too many
		{9, 1},                             // no number
		{1, 1, 9},                          // no number
		{1, 1, 255},                        // no number
		{0, 0, 0, 1, 0, 0, 0, 0},           // no counter
		{1, 1, 8, 16, 0, 0, 0, 0, 0, 0, 1}, // Leased is above MaxCounter
		{8, 16, 0, 0, 0, 0, 0, 0, 2, 8, 16, 0, 0, 0, 0, 0, 0, 0},                               // Next is above Leased + 1
		{8, 255, 255, 255, 255, 255, 255, 255, 255, 8, 255, 255, 255, 255, 255, 255, 255, 255}, // far above
		{0, 8, 255, 255, 255, 255, 255, 255, 255, 255},                                         // Leased + 1 would overflow to Next
		{1, 1, 8, 16, 0, 0, 0, 0, 0, 0},                                                        // a byte of Leased is missing
		{9, 0, 16, 0, 0, 0, 0, 0, 0, 0, 8, 16, 0, 0, 0, 0, 0, 0, 0},                            // Next has a byte too many
		{8, 16, 0, 0, 0, 0, 0, 0, 1, 8, 16, 0, 0, 0, 0, 0, 0, 0, 0},                            // a byte is left
		bytes.Repeat([]byte{1}, 1000),                                                          // bytes are left
		append([]byte{1, 1, 0}, make([]byte, 1<<16)...),                                        // bytes are left
	} {
		c, e := lease.Read(b)
		refused(t, c, e, api.ErrBad)
	}
}

// Each piece of the bytes, each byte behind them and each other byte in them is refused, or is another counter's bytes.
func TestReadOfChangedBytes(t *testing.T) {
	for _, c := range []api.Counter{{Next: 1}, {Next: 3, Leased: 3}, {Next: 300, Leased: 70000}, {Next: most, Leased: most},
		{Next: 256, Leased: 255}, {Next: 1, Leased: 1 << 59}} {
		b := written(c)
		for n := range b {
			got, e := lease.Read(b[:n])
			refused(t, got, e, api.ErrBad)
		}
		for x := range 256 {
			got, e := lease.Read(append(written(c), byte(x)))
			refused(t, got, e, api.ErrBad)
			for i := range b {
				readsAsWritten(t, changed(b, i, byte(x)))
			}
		}
	}
}

// changed is b with another byte at i.
func changed(b []byte, i int, x byte) []byte {
	b = append([]byte(nil), b...)
	b[i] = x
	return b
}

// readsAsWritten checks that b is refused, or read as the valid counter of which it is the bytes.
func readsAsWritten(t *testing.T, b []byte) {
	t.Helper()
	c, e := lease.Read(b)
	if e != api.OK {
		refused(t, c, e, api.ErrBad)
	} else if !valid(c) || !bytes.Equal(written(c), b) {
		t.Fatalf("%x: %d", b, c)
	}
}

func TestReadOfShortBytes(t *testing.T) {
	accepted := 0
	for a := range 256 {
		for b := range 256 {
			for _, tail := range [][]byte{nil, {0}, {1}, {1, 1}, {1, 0}, {1, 7}, {2, 1, 0}, {0, 0}} {
				all := append([]byte{byte(a), byte(b)}, tail...)
				readsAsWritten(t, all)
				if _, e := lease.Read(all); e == api.OK {
					accepted++
				}
			}
		}
	}
	// {1, 1} with 0, 1 1 or 1 7 or 2 1 0; {1, 2} with 1 1, 1 7 or 2 1 0; {1, 3 .. 8} with 1 7 or 2 1 0; {1, 9 .. 255} with 2 1 0.
	if want := 4 + 3 + 6*2 + 247; accepted != want {
		t.Errorf("%d and not %d", accepted, want)
	}
}

// P6.3

// walk is the life of one counter: what was taken last, and all values that it had since it was leased last, or crashed.
type walk struct {
	c     api.Counter
	last  uint64
	since []api.Counter
	taken map[uint64]bool
}

// take takes a number, which must be above all that were taken, and leased.
func (w *walk) take(t *testing.T) {
	t.Helper()
	n, c, e := lease.Take(w.c)
	if e == api.ErrNone {
		if lease.Left(w.c) != 0 {
			t.Fatalf("%d: none, but some are left", w.c)
		}
		return
	}
	if e != api.OK || n <= w.last || n > w.c.Leased || w.taken[n] {
		t.Fatalf("%d: took %d after %d: %d", w.c, n, w.last, e)
	}
	if lease.Left(c) != lease.Left(w.c)-1 {
		t.Fatalf("%d: %d left, and then %d", w.c, lease.Left(w.c), lease.Left(c))
	}
	w.c, w.last, w.taken[n] = c, n, true
	w.since = append(w.since, c)
}

// lease leases by further numbers, all of which are above what was leased.
func (w *walk) lease(t *testing.T, by uint64) {
	t.Helper()
	c, e := lease.Lease(w.c, by)
	if e == api.ErrFull && w.c.Leased == most {
		return
	}
	if e != api.OK || c.Leased <= w.c.Leased || c.Leased > most || c.Next != w.c.Next {
		t.Fatalf("%d: leasing %d: %d %d", w.c, by, c, e)
	}
	w.c, w.since = c, []api.Counter{c}
}

// crash recovers from one of the counters with the same Leased, whichever was kept.
func (w *walk) crash(t *testing.T, r *rand.Rand) {
	t.Helper()
	kept := w.since[r.Intn(len(w.since))]
	c, e := lease.Recover(kept)
	if e != api.OK || c.Leased != w.c.Leased || c.Next <= w.last || c.Next != w.c.Leased+1 {
		t.Fatalf("%d: recovered from %d: %d %d", w.c, kept, c, e)
	}
	w.c = c
	w.since = append(w.since, c)
}

func TestWhatIsTakenIncreases(t *testing.T) {
	r := rand.New(rand.NewSource(6))
	for _, first := range []api.Counter{lease.New(), {Next: 1000, Leased: 999}, {Next: most - 199, Leased: most - 200},
		{Next: most - 50, Leased: most - 40}, {Next: most, Leased: most}, {Next: 1<<32 - 20, Leased: 1<<32 - 10}} {
		for range 200 {
			w := walk{c: first, last: first.Next - 1, since: []api.Counter{first}, taken: map[uint64]bool{}}
			for range 300 {
				switch r.Intn(12) {
				case 0:
					w.lease(t, uint64(1+r.Intn(9)))
				case 1:
					w.crash(t, r)
				default:
					w.take(t)
				}
				if lease.Check(w.c) != api.OK {
					t.Fatal(w.c)
				}
			}
		}
	}
}

// Whatever Next is, recovering comes to the same, and all that is taken after that is above what was leased.
func TestRecoveringFromAnyCounterWithTheSameLeased(t *testing.T) {
	for _, leased := range []uint64{0, 1, 5, 100, most - 101, most - 100, most - 1} {
		for back := uint64(0); back <= min(100, leased); back++ {
			c, e := lease.Recover(api.Counter{Next: leased + 1 - back, Leased: leased})
			becomes(t, c, e, api.Counter{Next: leased + 1, Leased: leased})
			c, _ = lease.Lease(c, 3)
			took(t, c, leased+1)
		}
	}
}

// Rules 3, 4 and 6

func TestResultsAreNewMemory(t *testing.T) {
	c := api.Counter{Next: 300, Leased: 70000}
	first, _ := lease.Bytes(c)
	second, _ := lease.Bytes(c)
	first = first[:cap(first)]
	for i := range first {
		first[i] = 0x77
	}
	if !bytes.Equal(second, written(c)) {
		t.Errorf("%x", second)
	}
	if third, _ := lease.Bytes(c); !bytes.Equal(third, written(c)) {
		t.Errorf("%x", third)
	}
}

func TestReadChangesNothingAndReadsNoSpareCapacity(t *testing.T) {
	for _, c := range []api.Counter{{Next: 1}, {Next: 300, Leased: 70000}, {Next: most, Leased: most}} {
		all := append(written(c), written(c)...)
		want := append([]byte(nil), all...)
		size := len(written(c))
		for n := range all {
			got, e := lease.Read(all[:n])
			if n == size {
				becomes(t, got, e, c)
			} else {
				refused(t, got, e, api.ErrBad)
			}
			if !bytes.Equal(all, want) {
				t.Fatalf("%x and not %x", all, want)
			}
		}
	}
}

func TestNilAndEmptyAreTheSame(t *testing.T) {
	for _, b := range [][]byte{nil, {}, []byte{1, 1, 0}[:0], make([]byte, 0, 9)} {
		c, e := lease.Read(b)
		refused(t, c, e, api.ErrBad)
	}
}
