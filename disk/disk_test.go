package disk_test

import (
	"math"
	"slices"
	"strings"
	"testing"

	"drawbridge/api"
	"drawbridge/disk"
)

// P12.1

func TestNew(t *testing.T) {
	for _, room := range []int{0, 1, 2, 100, greatestRoom - 1, greatestRoom} {
		d := fresh(t, room)
		if !d.On() || d.Left() != room {
			t.Errorf("room for %d: on: %v, left: %d", room, d.On(), d.Left())
		}
		named(t, d)
		safeAre(t, d)
	}
	for _, room := range []int{-1, -2, greatestRoom + 1, 2 * greatestRoom, math.MinInt, math.MaxInt, -greatestRoom, 1 << 40} {
		if d, e := disk.New(room); e != api.ErrArg || d != nil {
			t.Errorf("room for %d: %v %d", room, d, e)
		}
	}
	if greatestRoom != api.MaxDisk {
		t.Error(api.MaxDisk)
	}
}

// operations are all three on one file.
func operations(d *disk.Disk, name string) [3]api.Errno {
	return [3]api.Errno{d.Append(name, []byte("x")), d.Sync(name), d.Remove(name)}
}

func all(e api.Errno) [3]api.Errno {
	return [3]api.Errno{e, e, e}
}

func TestNamesOfEachByte(t *testing.T) {
	d := fresh(t, 100)
	letters := "abcdefghijklmnopqrstuvwxyz0123456789."
	for c := range 256 {
		one := string([]byte{byte(c)})
		want := api.ErrArg
		if strings.Contains(letters, one) {
			want = api.OK
		}
		for _, name := range []string{one, one + "a", "a" + one, "a" + one + "b", strings.Repeat("a", 39) + one, one + strings.Repeat("a", 39)} {
			if got := operations(d, name); got != all(want) {
				t.Errorf("%q: %d, not %d", name, got, want)
			}
		}
	}
	named(t, d)
}

func TestNamesOfEachLength(t *testing.T) {
	d := fresh(t, 100)
	for n := range 100 {
		want := api.OK
		if n < 1 || n > 40 {
			want = api.ErrArg
		}
		for _, c := range []string{"a", "z", "0", "9", "."} {
			if got := operations(d, strings.Repeat(c, n)); got != all(want) {
				t.Errorf("%d of %s: %d, not %d", n, c, got, want)
			}
		}
	}
	for _, name := range unlikeNames() {
		if got := operations(d, name); got != all(api.ErrArg) {
			t.Errorf("%q: %d", name, got)
		}
	}
	named(t, d)
	if d.Left() != 100 {
		t.Error(d.Left())
	}
}

// The length is counted in bytes, and a letter beyond ASCII is none of the lower-case ones.
func TestNamesBeyondASCII(t *testing.T) {
	d := fresh(t, 100)
	for _, name := range []string{"ä", "ß", "а", "٣", "０", "．", "ﬀ", "\u2024", "a\u0301", "\ufeffa", "\U0001d41a"} {
		if got := operations(d, name); got != all(api.ErrArg) {
			t.Errorf("%q: %d", name, got)
		}
	}
}

func TestAppend(t *testing.T) {
	d := fresh(t, 10)
	ok(t, d.Append("a", []byte("xy")))
	reads(t, d, "a", "xy")
	ok(t, d.Append("b", []byte("1")), d.Append("a", []byte("z")))
	reads(t, d, "a", "xyz")
	reads(t, d, "b", "1")
	named(t, d, "a", "b")
	if d.Left() != 6 {
		t.Error(d.Left())
	}
	ok(t, d.Append("a", nil), d.Append("b", []byte{}))
	reads(t, d, "a", "xyz")
	reads(t, d, "b", "1")
}

func TestAppendOfNothingCreatesAFile(t *testing.T) {
	for _, room := range []int{0, 5} {
		d := fresh(t, room)
		ok(t, d.Append("a", nil), d.Append(".", []byte{}))
		named(t, d, ".", "a")
		reads(t, d, "a", "")
		reads(t, d, ".", "")
		if d.Left() != room {
			t.Error(d.Left())
		}
	}
}

func TestAppendWithoutRoom(t *testing.T) {
	for _, room := range []int{0, 1, 7, 1000, greatestRoom} {
		d := fresh(t, room)
		if e := d.Append("a", make([]byte, room+1)); e != api.ErrFull {
			t.Fatal(e)
		}
		// Nothing of it was done: not even the file is there.
		absent(t, d, "a")
		if d.Left() != room {
			t.Error(d.Left())
		}
		ok(t, d.Append("a", make([]byte, room)))
		if d.Left() != 0 || d.Size("a") != room {
			t.Error(d.Left(), d.Size("a"))
		}
		if d.Append("a", []byte("x")) != api.ErrFull || d.Append("b", []byte("x")) != api.ErrFull {
			t.Error("there is room")
		}
		ok(t, d.Append("a", nil), d.Append("c", nil), d.Remove("a"), d.Append("b", make([]byte, room)))
		named(t, d, "b", "c")
	}
}

// The room is that of all files together, whether their bytes are safe or not.
func TestRoomIsOfAllFiles(t *testing.T) {
	d := fresh(t, 6)
	ok(t, d.Append("a", []byte("12")), d.Sync("a"), d.Append("b", []byte("34")), d.Append("a", []byte("5")))
	if d.Append("c", []byte("67")) != api.ErrFull || d.Append("a", []byte("67")) != api.ErrFull {
		t.Error("there is room")
	}
	ok(t, d.Append("c", []byte("6")))
	if d.Left() != 0 {
		t.Error(d.Left())
	}
	ok(t, d.Remove("a"))
	if d.Left() != 3 {
		t.Error(d.Left())
	}
}

func TestAppendKeepsWhatWasThereWithoutRoom(t *testing.T) {
	d := fresh(t, 4)
	ok(t, d.Append("a", []byte("xy")), d.Sync("a"), d.Append("a", []byte("z")))
	if e := d.Append("a", []byte("vw")); e != api.ErrFull {
		t.Error(e)
	}
	reads(t, d, "a", "xyz")
	safeAre(t, d, "a=xy")
}

func TestSync(t *testing.T) {
	d := fresh(t, 100)
	if e := d.Sync("a"); e != api.ErrNone {
		t.Error(e)
	}
	absent(t, d, "a")
	ok(t, d.Append("a", []byte("xy")), d.Append("b", []byte("q")))
	safeAre(t, d)
	ok(t, d.Sync("a"))
	safeAre(t, d, "a=xy")
	ok(t, d.Append("a", []byte("z")))
	safeAre(t, d, "a=xy")
	ok(t, d.Sync("a"), d.Sync("a"))
	safeAre(t, d, "a=xyz")
	ok(t, d.Sync("b"))
	safeAre(t, d, "a=xyz", "b=q")
	reads(t, d, "a", "xyz")
}

func TestRemove(t *testing.T) {
	d := fresh(t, 100)
	if e := d.Remove("a"); e != api.ErrNone {
		t.Error(e)
	}
	ok(t, d.Append("a", []byte("xy")), d.Sync("a"), d.Append("a", []byte("z")), d.Append("b", []byte("q")), d.Remove("a"))
	named(t, d, "b")
	absent(t, d, "a")
	safeAre(t, d)
	if d.Left() != 99 || d.Remove("a") != api.ErrNone || d.Sync("a") != api.ErrNone {
		t.Error(d.Left())
	}
}

// It is permanent: no crash brings anything back, and a file of that name begins anew.
func TestRemoveIsPermanent(t *testing.T) {
	d := fresh(t, 100)
	ok(t, d.Append("a", []byte("xy")), d.Sync("a"), d.Remove("a"), d.Crash([]int{1}))
	absent(t, d, "a")
	ok(t, d.Append("a", []byte("xy")), d.Sync("a"), d.Remove("a"), d.Append("a", []byte("uvw")))
	reads(t, d, "a", "uvw")
	safeAre(t, d)
	ok(t, d.Crash([]int{2}))
	reads(t, d, "a", "uv")
	ok(t, d.Remove("a"), d.Append("a", []byte("uvw")), d.Crash(nil))
	absent(t, d, "a")
	if d.Left() != 100 {
		t.Error(d.Left())
	}
}

func TestAFuseBlowsAtTheOperationAfterFurtherOnes(t *testing.T) {
	for n := range 20 {
		d := fresh(t, 1000)
		ok(t, d.Append("a", []byte("x")), d.Fuse(n))
		for i := range n {
			switch i % 3 {
			case 0:
				ok(t, d.Append("a", []byte("x")))
			case 1:
				ok(t, d.Sync("a"))
			case 2:
				ok(t, d.Append("b", nil))
			}
			if !d.On() {
				t.Fatalf("%d: off after %d", n, i)
			}
		}
		before, size := d.Names(), d.Size("a")
		for range 3 {
			if got := [3]api.Errno{d.Append("a", []byte("x")), d.Remove("a"), d.Sync("a")}; got != all(api.ErrOff) || d.On() {
				t.Fatalf("%d: %d, on: %v", n, got, d.On())
			}
		}
		named(t, d, before...)
		reads(t, d, "a", strings.Repeat("x", size))
	}
}

// Each of the three blows it, and is not done.
func TestWhatBlowsAFuseIsNotDone(t *testing.T) {
	for _, s := range []step{{call: "append", name: "a", bytes: "z"}, {call: "append", name: "c", bytes: "z"}, {call: "append", name: "a"},
		{call: "sync", name: "a"}, {call: "sync", name: "c"}, {call: "remove", name: "a"}, {call: "remove", name: "c"}} {
		d, r := fresh(t, 10), &reading{room: 10}
		for _, s := range []step{{call: "append", name: "a", bytes: "xy"}, {call: "append", name: "b", bytes: "q"}, {call: "fuse"}, s} {
			s.do(t, d, r, s)
		}
		if d.On() {
			t.Error(s)
		}
		named(t, d, "a", "b")
		reads(t, d, "a", "xy")
		safeAre(t, d)
		r.agrees(t, d, s)
	}
}

// ErrOff comes before ErrFull and ErrNone, and after ErrArg.
func TestOrderOfErrors(t *testing.T) {
	for _, n := range []int{-1, 0} {
		d := fresh(t, 3)
		ok(t, d.Fuse(n))
		want := [3]api.Errno{api.ErrFull, api.ErrNone, api.ErrNone}
		if n == 0 {
			want = all(api.ErrOff)
		}
		for range 2 {
			if got := [3]api.Errno{d.Append("a", make([]byte, 4)), d.Sync("a"), d.Remove("a")}; got != want {
				t.Errorf("%d: %d", n, got)
			}
			for _, name := range unlikeNames() {
				if got := [3]api.Errno{d.Append(name, make([]byte, 4)), d.Sync(name), d.Remove(name)}; got != all(api.ErrArg) {
					t.Errorf("%d: %q: %d", n, name, got)
				}
			}
		}
	}
}

// What is refused as ErrArg is not begun: it is none of the further ones, and does not blow a fuse. What is begun, and
// refused after that, is one of them.
func TestWhatAFuseCounts(t *testing.T) {
	d := fresh(t, 3)
	ok(t, d.Fuse(0))
	for _, name := range unlikeNames() {
		if got := operations(d, name); got != all(api.ErrArg) || !d.On() {
			t.Errorf("%q: %d, on: %v", name, got, d.On())
		}
	}
	ok(t, d.Fuse(3))
	if d.Append("", nil) != api.ErrArg || d.Append("a", make([]byte, 4)) != api.ErrFull || d.Sync("A") != api.ErrArg ||
		d.Sync("a") != api.ErrNone || d.Remove("A") != api.ErrArg || d.Remove("a") != api.ErrNone || !d.On() {
		t.Error("not what a fuse of 3 lets")
	}
	if d.Append("a", nil) != api.ErrOff || d.On() {
		t.Error("it did not blow")
	}
}

// No question is an operation.
func TestQuestionsAreNotCounted(t *testing.T) {
	d := fresh(t, 10)
	ok(t, d.Append("a", []byte("x")), d.Fuse(1))
	for range 5 {
		d.Read("a")
		d.Read("b")
		d.Names()
		d.Size("a")
		d.Left()
		d.On()
		d.Safe()
	}
	ok(t, d.Sync("a"))
	if e := d.Sync("a"); e != api.ErrOff {
		t.Error(e)
	}
}

// P12.2

func TestQuestionsWhenOff(t *testing.T) {
	d := fresh(t, 10)
	ok(t, d.Append("a", []byte("xy")), d.Sync("a"), d.Append("a", []byte("z")), d.Append("b", nil), d.Fuse(0))
	if d.Remove("a") != api.ErrOff || d.On() {
		t.Error("it is on")
	}
	reads(t, d, "a", "xyz")
	reads(t, d, "b", "")
	absent(t, d, "c")
	absent(t, d, "A")
	named(t, d, "a", "b")
	safeAre(t, d, "a=xy")
	if d.Left() != 7 {
		t.Error(d.Left())
	}
}

func TestReadOfNoFile(t *testing.T) {
	d := fresh(t, 10)
	ok(t, d.Append("a", []byte("xy")), d.Append("aaa", nil))
	for _, name := range append(unlikeNames(), "b", "aa", "a.", ".a", strings.Repeat("a", 40)) {
		absent(t, d, name)
	}
}

func TestNamesAreAscending(t *testing.T) {
	want := []string{".", "..", ".a", "0", "0.", "00", "1", "10", "2", "9", "a", "a.", "a.1", "a.10", "a.2", "a0", "aa", "b", "z", "zz"}
	for turn := range want {
		d := fresh(t, 100)
		for i := range want {
			name := want[(i*7+turn)%len(want)]
			ok(t, d.Append(name, []byte("x")), d.Sync(name))
		}
		named(t, d, want...)
		var safe []string
		for _, f := range d.Safe() {
			safe = append(safe, f.Name)
		}
		if !slices.Equal(safe, want) {
			t.Errorf("%q", safe)
		}
	}
}

func TestSafe(t *testing.T) {
	d := fresh(t, 100)
	ok(t, d.Append("e", nil), d.Sync("e"), d.Append("d", []byte("q")), d.Append("c", nil), d.Append("b", []byte("xy")), d.Sync("b"),
		d.Append("b", []byte("z")), d.Append("a", []byte("1")), d.Sync("a"))
	safeAre(t, d, "a=1", "b=xy", "e=")
	// That it was synced counts for a file without safe bytes.
	ok(t, d.Append("e", []byte("w")))
	safeAre(t, d, "a=1", "b=xy", "e=")
	ok(t, d.Remove("e"))
	safeAre(t, d, "a=1", "b=xy")
}

func TestFuseBelowZeroIsNone(t *testing.T) {
	for _, n := range []int{-1, -2, -100, math.MinInt} {
		d := fresh(t, 1000)
		ok(t, d.Fuse(0), d.Fuse(n))
		for range 300 {
			ok(t, d.Append("a", []byte("x")))
		}
		if !d.On() {
			t.Error(n)
		}
	}
}

func TestANewFuseReplacesTheOneBefore(t *testing.T) {
	for _, before := range []int{0, 1, 2, 5, 100} {
		for _, n := range []int{0, 1, 2, 5} {
			d := fresh(t, 1000)
			ok(t, d.Fuse(before))
			if before > 1 {
				ok(t, d.Append("a", nil))
			}
			ok(t, d.Fuse(n))
			for range n {
				ok(t, d.Append("a", nil))
			}
			if d.Append("a", nil) != api.ErrOff {
				t.Errorf("%d and then %d", before, n)
			}
		}
	}
}

// Setting a fuse blows nothing, and none turns a disk on.
func TestFuseTurnsNothingOnOrOff(t *testing.T) {
	d := fresh(t, 10)
	ok(t, d.Fuse(0))
	if !d.On() {
		t.Error("setting it blew it")
	}
	if d.Append("a", nil) != api.ErrOff {
		t.Error("it did not blow")
	}
	for _, n := range []int{-1, 0, 1, 100, math.MaxInt, -1} {
		ok(t, d.Fuse(n))
		if d.On() || d.Append("a", nil) != api.ErrOff || d.Sync("a") != api.ErrOff {
			t.Errorf("%d turned it on", n)
		}
	}
	ok(t, d.Fuse(0), d.Crash(nil))
	if !d.On() {
		t.Error("a crash did not turn it on")
	}
	ok(t, d.Append("a", nil), d.Append("a", nil))
}

func TestAGreatFuse(t *testing.T) {
	d := fresh(t, 10)
	ok(t, d.Fuse(math.MaxInt))
	for range 1000 {
		ok(t, d.Append("a", nil))
	}
}

// The chapter's examples.
func TestExamples(t *testing.T) {
	d := fresh(t, 100)
	ok(t, d.Append("a", []byte("xy")), d.Sync("a"), d.Append("a", []byte("z")), d.Crash(nil))
	reads(t, d, "a", "xy")

	d = fresh(t, 100)
	ok(t, d.Append("a", []byte("xy")), d.Sync("a"), d.Append("a", []byte("z")), d.Crash([]int{1}))
	reads(t, d, "a", "xyz")
	ok(t, d.Append("b", []byte("q")), d.Crash(nil))
	named(t, d, "a")

	d = fresh(t, 100)
	ok(t, d.Fuse(1), d.Append("a", nil))
	if d.Append("a", nil) != api.ErrOff || d.On() {
		t.Error("it is on")
	}
}
