package disk_test

import (
	"math"
	"slices"
	"strconv"
	"strings"
	"testing"

	"drawbridge/api"
)

// P12.2: crashes

// A part is taken modulo one more than there are bytes that are not safe.
func TestPartsOfOneFile(t *testing.T) {
	for _, safe := range []int{-1, 0, 1, 5} { // -1: never synced
		for more := range 6 {
			for _, part := range []int{math.MinInt, -7, -6, -2, -1, 0, 1, 2, 3, 4, 5, 6, 7, 8, 11, 12, 100, math.MaxInt - 1, math.MaxInt} {
				d := fresh(t, 100)
				if safe >= 0 {
					ok(t, d.Append("a", []byte("abcde"[:safe])), d.Sync("a"))
				}
				ok(t, d.Append("a", []byte("fghij"[:more])), d.Crash([]int{part}))
				keeps := 0
				for i := range more + 1 {
					if part > 0 && (part-i)%(more+1) == 0 {
						keeps = i
					}
				}
				want := "abcde"[:max(safe, 0)] + "fghij"[:keeps]
				if d.Left() != 100-len(want) {
					t.Errorf("%d and %d, %d: %d", safe, more, part, d.Left())
				}
				if safe < 0 && keeps == 0 {
					absent(t, d, "a")
					continue
				}
				reads(t, d, "a", want)
				safeAre(t, d, "a="+want)
			}
		}
	}
}

// Each file takes one part, in ascending order of names, also if it needs none.
func TestPartsGoByName(t *testing.T) {
	d := fresh(t, 100)
	for _, name := range []string{"d", "b", "a", "e", "c"} {
		ok(t, d.Append(name, []byte("1")))
		if name != "e" {
			ok(t, d.Sync(name))
		}
		if name != "b" {
			ok(t, d.Append(name, []byte("2345")))
		}
	}
	ok(t, d.Crash([]int{1, 3, 2, -1, 4}))
	named(t, d, "a", "b", "c", "d", "e")
	for name, want := range map[string]string{"a": "12", "b": "1", "c": "123", "d": "1", "e": "1234"} {
		reads(t, d, name, want)
	}
}

func TestTooFewAndTooManyParts(t *testing.T) {
	for n := range 6 {
		d := fresh(t, 100)
		ok(t, d.Append("a", []byte("xyz")), d.Append("b", []byte("xyz")), d.Append("c", []byte("xyz")))
		ok(t, d.Crash([]int{3, 2, 1, 3, 3}[:min(n, 5)]))
		named(t, d, []string{"a", "b", "c"}[:min(n, 3)]...)
		for i, want := range []string{"xyz", "xy", "x"}[:min(n, 3)] {
			reads(t, d, []string{"a", "b", "c"}[i], want)
		}
	}
	d := fresh(t, 0)
	ok(t, d.Crash([]int{1, 2, 3}))
	named(t, d)
}

// A file that was never synced, and keeps nothing, disappears; one that was synced stays, also without bytes.
func TestWhatDisappears(t *testing.T) {
	d := fresh(t, 100)
	ok(t, d.Append("a", nil), d.Append("b", []byte("x")), d.Append("c", nil), d.Sync("c"), d.Append("d", nil), d.Sync("d"),
		d.Append("d", []byte("x")), d.Append("e", []byte("x")), d.Sync("e"), d.Append("f", []byte("xy")))
	ok(t, d.Crash([]int{5, 0, 5, 0, 0, 1}))
	named(t, d, "c", "d", "e", "f")
	safeAre(t, d, "c=", "d=", "e=x", "f=x")
	if d.Left() != 98 {
		t.Error(d.Left())
	}
	// What remains counts as safe from then on, also if it was never synced.
	ok(t, d.Append("f", []byte("z")), d.Crash(nil))
	named(t, d, "c", "d", "e", "f")
	reads(t, d, "f", "x")
}

// What a crash loses makes room, and bytes that come later are put after what it kept.
func TestRoomAfterACrash(t *testing.T) {
	d := fresh(t, 8)
	ok(t, d.Append("a", []byte("ab")), d.Sync("a"), d.Append("a", []byte("cdef")), d.Append("b", []byte("gh")))
	if d.Left() != 0 {
		t.Error(d.Left())
	}
	ok(t, d.Crash([]int{1}))
	if d.Left() != 5 || d.Append("a", make([]byte, 6)) != api.ErrFull {
		t.Error(d.Left())
	}
	ok(t, d.Append("a", []byte("vwxyz")))
	reads(t, d, "a", "abcvwxyz")
	safeAre(t, d, "a=abc")
	ok(t, d.Crash([]int{5}))
	reads(t, d, "a", "abcvwxyz")
	if d.Left() != 0 {
		t.Error(d.Left())
	}
}

// A crash turns the disk on, and removes the fuse, whether it blew or not.
func TestACrashTurnsItOn(t *testing.T) {
	for _, n := range []int{-1, 0, 1, 2, 3, 10} {
		for operations := range 5 {
			d := fresh(t, 1000)
			ok(t, d.Fuse(n))
			for range operations {
				d.Append("a", []byte("x"))
			}
			ok(t, d.Crash(nil))
			if !d.On() {
				t.Errorf("%d, %d: off", n, operations)
			}
			for range 300 {
				ok(t, d.Append("a", []byte("x")))
			}
		}
	}
}

// A crash, and each question, is no operation: the fuse that is set after one counts from there.
func TestAFuseAfterACrash(t *testing.T) {
	d := fresh(t, 100)
	ok(t, d.Fuse(1), d.Crash(nil), d.Fuse(2), d.Append("a", nil), d.Append("a", nil))
	if !d.On() || d.Append("a", nil) != api.ErrOff || d.On() {
		t.Error("not a fuse of 2")
	}
}

func TestAFullDisk(t *testing.T) {
	d := fresh(t, greatestRoom)
	half := []byte(strings.Repeat("0123456789abcdef", greatestRoom/32))
	ok(t, d.Append("a", half), d.Sync("a"), d.Append("a", half))
	if d.Left() != 0 || d.Append("b", []byte("x")) != api.ErrFull {
		t.Error(d.Left())
	}
	ok(t, d.Crash([]int{len(half) + 5}))
	reads(t, d, "a", string(half)+"0123")
	if d.Left() != len(half)-4 {
		t.Error(d.Left())
	}
}

func TestManyFiles(t *testing.T) {
	const count = 5000
	d, want := fresh(t, count), []string{}
	for i := range count {
		// They are not made in the order of their names.
		name := strconv.Itoa(i * 7919 % count)
		want = append(want, name)
		ok(t, d.Append(name, []byte("x")))
	}
	slices.Sort(want)
	named(t, d, want...)
	// Every other one keeps its byte.
	parts, kept := make([]int, count), []string{}
	for i := range want {
		parts[i] = i % 2
		if i%2 == 1 {
			kept = append(kept, want[i])
		}
	}
	ok(t, d.Crash(parts))
	named(t, d, kept...)
	if d.Left() != count-len(kept) {
		t.Error(d.Left())
	}
}
