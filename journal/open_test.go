package journal_test

import (
	"math/rand"
	"slices"
	"strconv"
	"strings"
	"testing"

	"drawbridge/api"
	"drawbridge/disk"
	"drawbridge/journal"
)

// P13.2

func TestOpenOfAnEmptyDisk(t *testing.T) {
	for _, head := range []string{"", "h", "head", strings.Repeat("h", 300), strings.Repeat("h", mostOfRecord)} {
		d := fresh(t, greatestRoom)
		j := opened(t, d, head, head)
		stands(t, j, 1, 0, len(first(head)), api.OK)
		are(t, d, "x.1", first(head))
		safeAre(t, d, "x.1", first(head))
	}
	d := fresh(t, 100)
	opened(t, d, "hi", "hi")
	are(t, d, "x.1", "\x00\x00\x00\x06\x54\x14\x2c\x01\x01\x01\x01\x02hi")
}

// What was opened once is used as it is, and nothing is done to the disk: neither the head counts, nor that it is off.
func TestOpenAgain(t *testing.T) {
	s := first("h", "a", "") + frames("", "b", "", "cde")
	for _, head := range []string{"", "h", "other", strings.Repeat("g", mostOfRecord)} {
		for _, fuse := range []int{-1, 0} {
			d := with(t, "x.7", s)
			ok(t, d.Fuse(fuse))
			stands(t, opened(t, d, head, "h", "a", "", "", "b", "", "cde"), 7, 6, len(s), api.OK)
			are(t, d, "x.7", s)
			if !d.On() {
				t.Error("off")
			}
		}
	}
	d := with(t, "x.7", s)
	ok(t, d.Fuse(0))
	if d.Sync("x.7") != api.ErrOff {
		t.Error("on")
	}
	j := opened(t, d, "", "h", "a", "", "", "b", "", "cde")
	if e := j.Append([]byte("f")); e != api.ErrOff {
		t.Error(e)
	}
	stands(t, j, 7, 6, len(s), api.ErrOff)
}

func TestOrderOfErrorsOfOpen(t *testing.T) {
	long := strings.Repeat("h", mostOfRecord+1)
	for _, d := range []*disk.Disk{nil, {}, new(disk.Disk)} {
		refused(t, d, "x", "h", api.ErrNil)
		refused(t, d, "X", long, api.ErrNil)
	}
	// ErrArg, and then ErrLong, come before what the disk has to say, and also if there is a generation already.
	for _, files := range [][]string{nil, {"x.1", first("h")}, {"x.1", first("h") + "x"}, {"x.1099511627776", ""}} {
		d := with(t, files...)
		ok(t, d.Fuse(0))
		for _, name := range unlikeNames() {
			refused(t, d, name, "h", api.ErrArg)
			refused(t, d, name, long, api.ErrArg)
		}
		refused(t, d, "x", long, api.ErrLong)
		are(t, d, files...)
		if !d.On() {
			t.Error("off")
		}
	}
}

// The head must be short enough, although it is not used.
func TestOpenWithALongHead(t *testing.T) {
	for _, n := range []int{mostOfRecord + 1, 2 * mostOfRecord, mostOfFrame, mostOfFrame + 1} {
		d := fresh(t, greatestRoom)
		refused(t, d, "x", strings.Repeat("h", n), api.ErrLong)
		are(t, d)
	}
}

func TestOpenWithoutRoom(t *testing.T) {
	for room := range len(first("head")) {
		d := fresh(t, room)
		refused(t, d, "x", "head", api.ErrFull)
		are(t, d)
	}
	d := fresh(t, len(first("head")))
	opened(t, d, "head", "head")
}

// The current generation is the greatest one whose file begins with a list; all others are removed.
func TestTheCurrentGeneration(t *testing.T) {
	two, ten, nine := first("2"), first("10", "a"), first("9")
	for _, c := range []struct {
		files []string
		n     int64
		want  []string
	}{
		{[]string{"x.2", two}, 2, []string{"2"}},
		{[]string{"x.10", ten, "x.2", two, "x.9", nine}, 10, []string{"10", "a"}},
		{[]string{"x.10", ten[:len(ten)-1], "x.2", two, "x.9", nine}, 9, []string{"9"}},
		{[]string{"x.10", "", "x.2", two, "x.9", nine[:8]}, 2, []string{"2"}},
		{[]string{"x.100", frame("\x00"), "x.10", frame("x"), "x.2", two, "x.9", frame("")}, 2, []string{"2"}},
		{[]string{"x.1", first("a", "b", "c"), "x.1099511627776", first("z")}, lastGeneration, []string{"z"}},
		{[]string{"x.1", first("a", "b", "c"), "x.1099511627776", "z"}, 1, []string{"a", "b", "c"}},
		// None begins with a list: the next one is one more than the greatest.
		{[]string{"x.2", ""}, 3, []string{"h"}},
		{[]string{"x.10", "a", "x.2", frame("2"), "x.9", frame("\x00")}, 11, []string{"h"}},
		{[]string{"x.1099511627775", "a"}, lastGeneration, []string{"h"}},
		{[]string{"x.99", ""}, 100, []string{"h"}},
	} {
		d := with(t, c.files...)
		j := opened(t, d, "h", c.want...)
		stands(t, j, c.n, len(c.want)-1, len(first(c.want...)), api.OK)
		are(t, d, "x."+strconv.FormatInt(c.n, 10), first(c.want...))
		safeAre(t, d, "x."+strconv.FormatInt(c.n, 10), first(c.want...))
	}
}

// Files whose names are like those of a generation, but are not, are nothing to it.
func TestFilesOfNoGeneration(t *testing.T) {
	s := first("other")
	var files []string
	for _, name := range []string{"1", "a.1", "x", "x.", "x..1", "x.0", "x.00", "x.01", "x.01099511627776", "x.1.", "x.1.1", "x.1099511627777", "x.1a",
		"x.18446744073709551617", "x.2000000000000", "x.99999999999999999999999999999999999999", "x.9223372036854775807", "x.a", "x1", "xx.1", "xy.5"} {
		files = append(files, name, s)
	}
	d := with(t, files...)
	before := contents(d)
	j := opened(t, d, "h", "h")
	stands(t, j, 1, 0, len(first("h")), api.OK)
	ok(t, j.Append([]byte("a")), j.Begin([]byte("g")), j.Append([]byte("b")))
	opened(t, d, "h", "g", "b")
	ok(t, d.Append("x.1", nil))
	opened(t, d, "h", "g", "b")
	ok(t, d.Remove("x.2"))
	are(t, d, before...)
}

// Several journals on one disk have nothing in common.
func TestJournalsAreApart(t *testing.T) {
	d := fresh(t, 1000)
	names := []string{"x", "xx", "abcdefgh", "abcdefg", "y"}
	var all []*journal.Journal
	for _, name := range names {
		j, _, e := journal.Open(d, name, []byte(name))
		ok(t, e)
		all = append(all, j)
	}
	for i, j := range all {
		for range i {
			ok(t, j.Append([]byte("a")), j.Begin([]byte(names[i])), j.Append([]byte("b")))
		}
	}
	for i, name := range names {
		j, l, e := journal.Open(d, name, nil)
		want := append([]string{name}, slices.Repeat([]string{"b"}, min(i, 1))...)
		if e != api.OK || !slices.Equal(texts(l), want) || j.Generation() != int64(i+1) {
			t.Errorf("%s: %d %q in %d", name, e, l, j.Generation())
		}
	}
	if got := d.Names(); !slices.Equal(got, []string{"abcdefg.4", "abcdefgh.3", "x.1", "xx.2", "y.5"}) {
		t.Errorf("%q", got)
	}
}

// Lists that are not written as they must be are none: their file is none of a generation that began.
func TestWhatIsNoList(t *testing.T) {
	long := number(mostOfRecord+1) + strings.Repeat("a", mostOfRecord+1)
	for _, s := range []string{"", "\x00", "\x00x", "\x01", "\x01\x00", "\x01\x01", "\x01\x01\x01", "\x01\x01\x01\x01", "\x01\x01\x01\x02a", "\x01\x01\x01\x01ab",
		"\x01\x01\x00\x00", "\x01\x02\x00", "\x01\x02\x01\x01a", "\x01\x02\x01\x01a\x01\x02b", "\x01\x02\x00\x00\x00", "\x02\x00\x01\x00", "\x02\x00\x01\x01\x01a",
		"\x01\x01\x02\x00\x01a", "\x01\x01\x01\x00", "\x09", "\x01\x01\x09", "\x08\xff\xff\xff\xff\xff\xff\xff\xff\x00\x00", "\x08\x80\x00\x00\x00\x00\x00\x00\x01\x00",
		"\x08\x7f\xff\xff\xff\xff\xff\xff\xff", "\x05\x01\x00\x00\x00\x01\x00", "\x01\x01\x08\xff\xff\xff\xff\xff\xff\xff\xffabc", "abc", list("a") + "\x00", list("a")[1:],
		number(1) + long, number(2) + "\x00" + long, "\xff\x01\x00"} {
		for _, more := range []string{"", frame("b"), "b"} {
			d := with(t, "x.3", first("old"), "x.4", frame(s)+more)
			opened(t, d, "h", "old")
			are(t, d, "x.3", first("old"))
			d = with(t, "x.4", frame(s)+more)
			opened(t, d, "h", "h")
			are(t, d, "x.5", first("h"))
		}
	}
	// A list that is not in a frame is none either.
	opened(t, with(t, "x.3", first("old"), "x.4", list("a")), "h", "old")
}

func TestListsOfEachNumber(t *testing.T) {
	for _, n := range []int{1, 2, 3, 127, 128, 255, 256, 257, 65535, 65536, 65537, 1 << 18} {
		want := make([]string, n)
		for i := range want {
			want[i] = strings.Repeat("q", i%3)
		}
		d := with(t, "x.1", first(want...))
		stands(t, opened(t, d, "h", want...), 1, n-1, len(first(want...)), api.OK)
		are(t, d, "x.1", first(want...))
		// They go to the next generation one by one as well.
		ok(t, d.Append("x.1", []byte("x")))
		stands(t, opened(t, d, "h", want...), 2, n-1, len(first(want...)), api.OK)
		are(t, d, "x.2", first(want...))
	}
}

// nearly is records of the greatest length, whose list has as many bytes more than a list may have.
func nearly(t *testing.T, more int) []string {
	t.Helper()
	record := strings.Repeat("abcdefgh", mostOfRecord/8)
	// The number 8 has two bytes, and each of the eight lengths four.
	all := append(slices.Repeat([]string{record}, 7), record[:mostOfFrame-7*mostOfRecord-2-8*4+more])
	if got := len(list(all...)); got != mostOfFrame+more {
		t.Fatal(got)
	}
	return all
}

func TestTheGreatestLists(t *testing.T) {
	for more := -1; more < 2; more++ {
		all := nearly(t, more)
		d := with(t, "x.1", first("old"), "x.2", first(all...))
		if more > 0 {
			opened(t, d, "h", "old")
			are(t, d, "x.1", first("old"))
			continue
		}
		opened(t, d, "h", all...)
		are(t, d, "x.2", first(all...))
	}
}

// The records are in several frames; their list is begun only if it may have so many bytes, and if there is room for it
// beside them.
func TestRestartsWithTheGreatestLists(t *testing.T) {
	for more := -1; more < 2; more++ {
		all := nearly(t, more)
		s := first(all[:2]...) + frames(all[2:]...) + "x"
		d := with(t, "x.1", s)
		if more > 0 {
			refused(t, d, "x", "h", api.ErrLong)
		} else {
			// Both have more than 2^24 bytes.
			refused(t, d, "x", "h", api.ErrFull)
		}
		are(t, d, "x.1", s)
	}
}

// Records that can't be in one list can be in the frames of one file, unless there are truncated bytes.
func TestMoreThanAListHas(t *testing.T) {
	record := strings.Repeat("abcdefgh", mostOfRecord/8)
	var records []string
	for range 12 {
		records = append(records, record)
	}
	s := first("h") + frames(records...)
	d := with(t, "x.1", s)
	j := opened(t, d, "g", append([]string{"h"}, records...)...)
	stands(t, j, 1, 12, len(s), api.OK)
	ok(t, d.Append("x.1", []byte("x")), d.Append("x.2", nil))
	refused(t, d, "x", "g", api.ErrLong)
	are(t, d, "x.1", s+"x", "x.2", "")
	// ErrLong comes before ErrFull, and before all errors of the disk.
	ok(t, d.Append("x.1099511627776", nil), d.Fuse(0))
	refused(t, d, "x", "g", api.ErrLong)
	if !d.On() {
		t.Error("off")
	}
}

// A frame with more bytes than a record may have is complete, but can't go to the next generation.
func TestFramesThatAreNoRecords(t *testing.T) {
	long := strings.Repeat("q", mostOfRecord+1)
	s := first("h") + frames("a", long, "b")
	d := with(t, "x.1", s)
	stands(t, opened(t, d, "g", "h", "a", long, "b"), 1, 3, len(s), api.OK)
	ok(t, d.Append("x.1", []byte("x")))
	refused(t, d, "x", "g", api.ErrLong)
	are(t, d, "x.1", s+"x")
}

// Wherever the file is cut, what is complete counts, and is rewritten as one frame.
func TestTruncatedBytes(t *testing.T) {
	begin := first("h", "a")
	records := []string{"b", "", "cd", strings.Repeat("e", 20)}
	s := begin + frames(records...)
	for n := len(begin); n <= len(s); n++ {
		want, size := []string{"h", "a"}, len(begin)
		for i := range records {
			if whole := begin + frames(records[:i+1]...); len(whole) <= n {
				want, size = append([]string{"h", "a"}, records[:i+1]...), len(whole)
			}
		}
		d := with(t, "x.5", s[:n])
		j := opened(t, d, "g", want...)
		if size == n {
			stands(t, j, 5, len(want)-1, n, api.OK)
			are(t, d, "x.5", s[:n])
			continue
		}
		stands(t, j, 6, len(want)-1, len(first(want...)), api.OK)
		are(t, d, "x.6", first(want...))
		safeAre(t, d, "x.6", first(want...))
	}
}

func TestTruncatedBytesOfAnyKind(t *testing.T) {
	whole := first("h") + frames("a", "b")
	for _, more := range []string{"\x00", "x", "\x00\x00\x00\x09\x01", frame("c")[:8], frame("c")[1:], strings.Repeat("\x00", 8), first("g")[1:], "\x00" + frame("c"),
		frame(strings.Repeat("q", mostOfFrame+1))} {
		d := with(t, "x.1", whole+more)
		stands(t, opened(t, d, "g", "h", "a", "b"), 2, 2, len(first("h", "a", "b")), api.OK)
		are(t, d, "x.2", first("h", "a", "b"))
	}
	// A further list is a record as any other.
	d := with(t, "x.1", whole+first("g"))
	opened(t, d, "f", "h", "a", "b", list("g"))
	are(t, d, "x.1", whole+first("g"))
}

// Each bit of what follows a list ends what is complete.
func TestChangedBits(t *testing.T) {
	begin := first("h")
	s := begin + frames("a", "b")
	for at := range len(s) {
		for bit := range 8 {
			b := []byte(s)
			b[at] ^= 1 << bit
			d := with(t, "x.1", string(b))
			switch {
			case at < len(begin):
				stands(t, opened(t, d, "g", "g"), 2, 0, len(first("g")), api.OK)
			case at < len(begin)+9:
				stands(t, opened(t, d, "g", "h"), 2, 0, len(first("h")), api.OK)
			default:
				stands(t, opened(t, d, "g", "h", "a"), 2, 1, len(first("h", "a")), api.OK)
			}
		}
	}
}

// The next generation is one more than the greatest one whose file exists, not than the current one.
func TestTheNextGeneration(t *testing.T) {
	d := with(t, "x.12", "", "x.3", first("h", "a")+"x", "x.7", "abc")
	stands(t, opened(t, d, "g", "h", "a"), 13, 1, len(first("h", "a")), api.OK)
	are(t, d, "x.13", first("h", "a"))
}

func TestOpenWithoutAGreaterGeneration(t *testing.T) {
	for _, files := range [][]string{
		{"x.1099511627776", ""},
		{"x.1099511627776", first("h")[:8]},
		{"x.1099511627776", first("h") + "x"},
		{"x.1", first("h") + "x", "x.1099511627776", "abc"},
	} {
		d := with(t, files...)
		// ErrFull comes before all errors of the disk.
		for _, fuse := range []int{-1, 0} {
			ok(t, d.Fuse(fuse))
			refused(t, d, "x", "g", api.ErrFull)
			are(t, d, files...)
			if !d.On() {
				t.Error("off")
			}
		}
	}
	// Nobody needs a greater one.
	d := with(t, "x.1", first("h")+"x", "x.1099511627776", first("g")+frame("a"))
	stands(t, opened(t, d, "f", "g", "a"), lastGeneration, 1, len(first("g")+frame("a")), api.OK)
}

// A restart needs room for both generations.
func TestOpenOfTruncatedBytesWithoutRoom(t *testing.T) {
	s := first("h") + frames("a", "b") + "x"
	again := first("h", "a", "b")
	for _, left := range []int{0, 1, len(again) - 1, len(again)} {
		d := fresh(t, len(s)+left)
		ok(t, d.Append("x.1", []byte(s)))
		if left < len(again) {
			refused(t, d, "x", "g", api.ErrFull)
			are(t, d, "x.1", s)
			continue
		}
		opened(t, d, "g", "h", "a", "b")
		are(t, d, "x.2", again)
	}
}

// without are files but those of the names.
func without(files []string, names ...string) []string {
	var all []string
	for i := 0; i < len(files); i += 2 {
		if !slices.Contains(names, files[i]) {
			all = append(all, files[i], files[i+1])
		}
	}
	return all
}

// The other generations are removed in ascending order, after the next one is safe; the first error of the disk is returned.
func TestOrderOfOperations(t *testing.T) {
	files := []string{"x.1", "", "x.10", "10", "x.100", "100", "x.12", first("h") + "x", "x.2", "2", "x.20", "20", "x.9", frame("9")}
	after := slices.Insert(slices.Clone(files), 6, "x.101", first("h"))
	ascending := []string{"x.1", "x.2", "x.9", "x.10", "x.12", "x.20", "x.100"}
	for fuse := range 12 {
		d := with(t, files...)
		ok(t, d.Fuse(fuse))
		if fuse < 2+len(ascending) {
			refused(t, d, "x", "g", api.ErrOff)
		} else {
			opened(t, d, "g", "h")
		}
		switch {
		case fuse == 0:
			are(t, d, files...)
			safeAre(t, d, files...)
		case fuse == 1:
			are(t, d, after...)
			safeAre(t, d, files...)
		default:
			want := without(after, ascending[:min(fuse-2, len(ascending))]...)
			are(t, d, want...)
			safeAre(t, d, want...)
		}
		// Whatever was done, the next one who opens it has all.
		ok(t, d.Crash(nil))
		opened(t, d, "g", "h")
	}
}

// If nothing has to be started, the first operation is a removal.
func TestOrderOfRemovals(t *testing.T) {
	files := []string{"x.1", "", "x.10", "10", "x.12", first("h"), "x.2", "2", "x.20", "20", "x.9", "9"}
	ascending := []string{"x.1", "x.2", "x.9", "x.10", "x.20"}
	for fuse := range 8 {
		d := with(t, files...)
		ok(t, d.Fuse(fuse))
		if fuse < len(ascending) {
			refused(t, d, "x", "g", api.ErrOff)
		} else {
			opened(t, d, "g", "h")
		}
		are(t, d, without(files, ascending[:min(fuse, len(ascending))]...)...)
	}
}

// A start anew removes the others as well.
func TestOrderOfAStartAnew(t *testing.T) {
	for fuse := range 6 {
		d := with(t, "x.10", "a", "x.9", "b")
		ok(t, d.Fuse(fuse))
		if fuse < 4 {
			refused(t, d, "x", "g", api.ErrOff)
		} else {
			opened(t, d, "g", "g")
		}
		are(t, d, [][]string{
			{"x.10", "a", "x.9", "b"},
			{"x.10", "a", "x.11", first("g"), "x.9", "b"},
			{"x.10", "a", "x.11", first("g"), "x.9", "b"},
			{"x.10", "a", "x.11", first("g")},
			{"x.11", first("g")},
			{"x.11", first("g")},
		}[fuse]...)
	}
}

// Any files of a few generations are opened as the second reading opens them.
func TestAnyFiles(t *testing.T) {
	r := rand.New(rand.NewSource(3))
	for range 4000 {
		d, twin := fresh(t, 400), fresh(t, 400)
		for range r.Intn(5) {
			name := []string{"x.1", "x.2", "x.3", "x.9", "x.10", "x.11", "x.1099511627775", "x.1099511627776", "x.01", "y.1", "x.", "xx.4"}[r.Intn(12)]
			s := []byte(anyFile(r))
			ok(t, does(func() api.Errno { return d.Append(name, s) }, func() api.Errno { return twin.Append(name, s) }))
		}
		fuse := r.Intn(16) - 8
		ok(t, d.Fuse(fuse), twin.Fuse(fuse))
		read := &reading{d: twin, name: "x"}
		want, e := read.open("head")
		j, l, got := journal.Open(d, "x", []byte("head"))
		if got != e || !slices.Equal(texts(l), want) {
			t.Fatalf("%q: %q, %d; not %q, %d", contents(d), l, got, want, e)
		}
		sameDisk(t, d, twin, e)
		if e == api.OK {
			read.agrees(t, j, want)
		}
	}
}

// anyFile is bytes that may be those of a generation.
func anyFile(r *rand.Rand) string {
	records := []string{"", "a", "bc", "\x00", "\x01"}
	some := func() []string {
		var l []string
		for range r.Intn(4) {
			l = append(l, records[r.Intn(len(records))])
		}
		return l
	}
	s := first(some()...) + frames(some()...)
	switch r.Intn(6) {
	case 0:
		s = s[:r.Intn(len(s)+1)]
	case 1:
		b := []byte(s)
		b[r.Intn(len(b))] ^= 1 << r.Intn(8)
		s = string(b)
	case 2:
		s += records[r.Intn(len(records))]
	case 3:
		p := []byte(list(some()...))
		p[r.Intn(len(p))] += byte(r.Intn(5)) - 2
		s = frame(string(p)) + frames(some()...)
	}
	return s
}
