package disk_test

import (
	"math/rand"
	"slices"
	"strings"
	"testing"

	"drawbridge/api"
	"drawbridge/disk"
)

// live does all steps to a new disk and to a reading of it; they are held against each other at the end, or after each.
func live(t *testing.T, room int, each bool, steps ...step) *disk.Disk {
	t.Helper()
	d, r := fresh(t, room), &reading{room: room}
	for i, s := range steps {
		told := steps[:i+1]
		s.do(t, d, r, told)
		if each || i == len(steps)-1 {
			r.agrees(t, d, told)
		}
	}
	return d
}

// P12.1, P12.2

// All orders of a few steps on a small disk.
func TestAllOrders(t *testing.T) {
	few := []step{
		{call: "append", name: "a", bytes: "x"},
		{call: "append", name: "b", bytes: "yz"},
		{call: "append", name: "a"},
		{call: "sync", name: "a"},
		{call: "sync", name: "b"},
		{call: "remove", name: "a"},
		{call: "remove", name: "B"},
		{call: "fuse", n: 0},
		{call: "fuse", n: 2},
		{call: "fuse", n: -1},
		{call: "crash"},
		{call: "crash", parts: []int{1, 2}},
		{call: "crash", parts: []int{-1, 1}},
	}
	lives := [][]step{nil}
	for range 4 {
		var longer [][]step
		for _, l := range lives {
			for _, s := range few {
				longer = append(longer, append(slices.Clone(l), s))
			}
		}
		lives = longer
		for _, l := range lives {
			live(t, 4, false, l...)
		}
	}
	if len(lives) != 28561 {
		t.Error(len(lives))
	}
}

// somehow is a step that tends to fit a disk of a few small files.
func somehow(r *rand.Rand) step {
	names := []string{"a", "b", "b.1", "b.10", "c", "0", "zzz", strings.Repeat("q", 40), "A", ""}
	s := step{name: names[r.Intn(len(names))]}
	switch r.Intn(12) {
	case 0, 1, 2, 3, 4:
		s.call, s.bytes = "append", strings.Repeat(string([]byte{byte(r.Intn(256))}), r.Intn(9)*r.Intn(3))
	case 5, 6, 7:
		s.call = "sync"
	case 8:
		s.call = "remove"
	case 9:
		s.call, s.n = "fuse", r.Intn(30)-9
	default:
		s.call = "crash"
		for range r.Intn(9) {
			s.parts = append(s.parts, r.Intn(20)-4)
		}
	}
	return s
}

func TestRandomLives(t *testing.T) {
	r := rand.New(rand.NewSource(12))
	for n := range 1500 {
		steps := make([]step, 60)
		for i := range steps {
			steps[i] = somehow(r)
		}
		// Some are asked at the end alone, so that no question has a part in it.
		live(t, []int{0, 5, 20, 60, 200, 10000}[n%6], n%2 == 0, steps...)
	}
}

// P12.3

// After any crash each file has what was synced last, and a prefix of what was appended after that.
func TestWhatACrashLeaves(t *testing.T) {
	r := rand.New(rand.NewSource(13))
	names := []string{"a", "b", "c"}
	for range 3000 {
		d := fresh(t, 500)
		synced, after := map[string]string{}, map[string]string{}
		for range r.Intn(40) {
			name := names[r.Intn(len(names))]
			switch r.Intn(4) {
			case 0:
				if d.Sync(name) == api.OK {
					synced[name], after[name] = synced[name]+after[name], ""
				}
			case 1:
				if r.Intn(4) == 0 && d.Remove(name) == api.OK {
					delete(synced, name)
					delete(after, name)
				}
			default:
				b := strings.Repeat(string([]byte{'A' + byte(r.Intn(26))}), 1+r.Intn(5))
				if d.Append(name, []byte(b)) == api.OK {
					after[name] += b
				}
			}
			if r.Intn(20) == 0 {
				d.Fuse(r.Intn(5))
			}
		}
		ok(t, d.Crash([]int{r.Intn(40) - 5, r.Intn(40) - 5, r.Intn(40) - 5}))
		for _, name := range names {
			b, e := d.Read(name)
			more, has := strings.CutPrefix(string(b), synced[name])
			if !has || !strings.HasPrefix(after[name], more) || e != api.OK && e != api.ErrNone {
				t.Fatalf("%s is %q (%d), with %q synced, and %q after that", name, b, e, synced[name], after[name])
			}
		}
	}
}

// Two crashes, one after the other, are the same as the first one; what is there after one is safe.
func TestASecondCrashChangesNothing(t *testing.T) {
	r := rand.New(rand.NewSource(14))
	for range 500 {
		steps := make([]step, 30)
		for i := range steps {
			steps[i] = somehow(r)
		}
		steps[29] = step{call: "crash", parts: []int{r.Intn(9), r.Intn(9), r.Intn(9), r.Intn(9)}}
		d := live(t, 200, false, steps...)
		names, safe, left := d.Names(), files(d.Safe()), d.Left()
		for i, name := range names {
			reads(t, d, name, safe[i][len(name)+1:])
		}
		for _, parts := range [][]int{nil, {1, 1, 1, 1, 1, 1, 1, 1}, {7, -1, 0, 3}} {
			ok(t, d.Crash(parts))
			named(t, d, names...)
			safeAre(t, d, safe...)
			if d.Left() != left || !d.On() {
				t.Fatal(d.Left(), d.On())
			}
		}
	}
}

// Rule 6: the same calls come to the same, although the files are in a map.
func TestTheSameCallsComeToTheSame(t *testing.T) {
	r := rand.New(rand.NewSource(15))
	steps := make([]step, 200)
	for i := range steps {
		steps[i] = somehow(r)
	}
	first := live(t, 200, false, steps...)
	for range 50 {
		d := live(t, 200, false, steps...)
		named(t, d, first.Names()...)
		safeAre(t, d, files(first.Safe())...)
	}
}
