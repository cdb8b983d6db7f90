package journal_test

import (
	"strings"
	"testing"

	"drawbridge/api"
	"drawbridge/disk"
	"drawbridge/journal"
)

// P13.3

// appendTo appends records that are texts.
func appendTo(j *journal.Journal, records ...string) api.Errno {
	return j.Append(slicesOf(records)...)
}

func TestAppend(t *testing.T) {
	d := fresh(t, 1000)
	j := opened(t, d, "h", "h")
	s := first("h")
	for i, records := range [][]string{{"a"}, {"b", "cd", ""}, {""}, {}, {"e", "e", "e", "e"}, nil, {strings.Repeat("f", 300)}} {
		ok(t, appendTo(j, records...))
		s += frames(records...)
		stands(t, j, 1, []int{1, 4, 5, 5, 9, 9, 10}[i], len(s), api.OK)
		are(t, d, "x.1", s)
		safeAre(t, d, "x.1", s)
	}
	opened(t, d, "g", "h", "a", "b", "cd", "", "", "e", "e", "e", "e", strings.Repeat("f", 300))
}

// It counts the records of all frames.
func TestAppendAfterOpen(t *testing.T) {
	s := first("h", "a", "b") + frames("c")
	d := with(t, "x.4", s)
	j := opened(t, d, "g", "h", "a", "b", "c")
	stands(t, j, 4, 3, len(s), api.OK)
	ok(t, appendTo(j, "d", "e"))
	stands(t, j, 4, 5, len(s+frames("d", "e")), api.OK)
	are(t, d, "x.4", s+frames("d", "e"))
	ok(t, d.Append("x.4", []byte("x")))
	j = opened(t, d, "g", "h", "a", "b", "c", "d", "e")
	ok(t, appendTo(j, "f"))
	s = first("h", "a", "b", "c", "d", "e") + frame("f")
	stands(t, j, 5, 6, len(s), api.OK)
	are(t, d, "x.5", s)
	safeAre(t, d, "x.5", s)
}

func TestBegin(t *testing.T) {
	d := fresh(t, 1000)
	j := opened(t, d, "h", "h")
	ok(t, appendTo(j, "a", "b"))
	for i, head := range []string{"g", "", "h", strings.Repeat("f", 300)} {
		ok(t, j.Begin([]byte(head)))
		n := string('2' + byte(i))
		stands(t, j, int64(i+2), 0, len(first(head)), api.OK)
		are(t, d, "x."+n, first(head))
		safeAre(t, d, "x."+n, first(head))
		ok(t, appendTo(j, "c"))
		are(t, d, "x."+n, first(head)+frame("c"))
		stands(t, j, int64(i+2), 1, len(first(head)+frame("c")), api.OK)
	}
	opened(t, d, "h", strings.Repeat("f", 300), "c")
}

// From generation 9 on to 10 and 11: by their names these come before 9.
func TestManyGenerations(t *testing.T) {
	d := fresh(t, 1000)
	j := opened(t, d, "h", "h")
	for n := int64(2); n < 130; n++ {
		ok(t, j.Begin([]byte("g")), appendTo(j, "a"))
		stands(t, j, n, 1, len(first("g")+frame("a")), api.OK)
		file, _ := journal.File("x", n)
		are(t, d, file, first("g")+frame("a"))
		if n%3 == 0 {
			j = opened(t, d, "h", "g", "a")
			stands(t, j, n, 1, len(first("g")+frame("a")), api.OK)
		}
	}
}

func TestTheLongestRecords(t *testing.T) {
	long := strings.Repeat("abcdefgh", mostOfRecord/8)
	d := fresh(t, greatestRoom)
	j := opened(t, d, "h", "h")
	ok(t, appendTo(j, long, "a"))
	s := first("h") + frames(long, "a")
	stands(t, j, 1, 2, len(s), api.OK)
	// What is too long does nothing, and can be done better.
	for _, records := range [][]string{{long + "x"}, {"b", long + "x"}, {long + "x", "b"}, {long + long}} {
		if e := appendTo(j, records...); e != api.ErrLong {
			t.Error(e)
		}
		stands(t, j, 1, 2, len(s), api.OK)
		are(t, d, "x.1", s)
	}
	for _, head := range []string{long + "x", long + long} {
		if e := j.Begin([]byte(head)); e != api.ErrLong {
			t.Error(e)
		}
		stands(t, j, 1, 2, len(s), api.OK)
		are(t, d, "x.1", s)
	}
	ok(t, appendTo(j, "b"))
	are(t, d, "x.1", s+frame("b"))
	ok(t, j.Begin([]byte(long)))
	stands(t, j, 2, 0, len(first(long)), api.OK)
	are(t, d, "x.2", first(long))
	opened(t, d, "h", long)
}

// An append is one Append and one Sync of the disk, whatever the number of records; of none it is nothing at all.
func TestOperationsOfAppend(t *testing.T) {
	s := first("h")
	for _, records := range [][]string{{"a"}, {""}, {"a", "bc", "", "d"}} {
		all := s + frames(records...)
		for fuse := range 4 {
			d := with(t, "x.1", s)
			j := opened(t, d, "g", "h")
			ok(t, d.Fuse(fuse))
			e := appendTo(j, records...)
			switch fuse {
			case 0:
				are(t, d, "x.1", s)
				safeAre(t, d, "x.1", s)
				stands(t, j, 1, 0, len(s), api.ErrOff)
			case 1:
				are(t, d, "x.1", all)
				safeAre(t, d, "x.1", s)
				// The file has them, although they are not safe.
				stands(t, j, 1, len(records), len(all), api.ErrOff)
			default:
				are(t, d, "x.1", all)
				safeAre(t, d, "x.1", all)
				stands(t, j, 1, len(records), len(all), api.OK)
			}
			if e != j.Err() || d.On() != (fuse > 1) {
				t.Error(fuse, e, d.On())
			}
			if fuse == 3 && (d.Sync("x.1") != api.OK || d.Sync("x.1") != api.ErrOff) {
				t.Error("more than two operations")
			}
		}
	}
	d := with(t, "x.1", s)
	j := opened(t, d, "g", "h")
	ok(t, d.Fuse(0), j.Append(), appendTo(j), j.Append([][]byte{}...))
	if !d.On() {
		t.Error("off")
	}
	stands(t, j, 1, 0, len(s), api.OK)
}

// A begin is one Append and one Sync, and then one Remove of the previous file.
func TestOperationsOfBegin(t *testing.T) {
	old, next := first("h", "a")+frame("b"), first("g")
	for fuse := range 5 {
		// Whatever other files came up are nothing to it.
		d := with(t, "x.5", old)
		j := opened(t, d, "g", "h", "a", "b")
		ok(t, d.Append("x.3", []byte("3")), d.Sync("x.3"), d.Append("x.8", nil), d.Sync("x.8"), d.Fuse(fuse))
		e := j.Begin([]byte("g"))
		switch fuse {
		case 0:
			are(t, d, "x.3", "3", "x.5", old, "x.8", "")
			stands(t, j, 5, 2, len(old), api.ErrOff)
		case 1:
			are(t, d, "x.3", "3", "x.5", old, "x.8", "", "x.9", next)
			safeAre(t, d, "x.3", "3", "x.5", old, "x.8", "")
			// Its file begins with a list, although that is not safe.
			stands(t, j, 9, 0, len(next), api.ErrOff)
		case 2:
			are(t, d, "x.3", "3", "x.5", old, "x.8", "", "x.9", next)
			safeAre(t, d, "x.3", "3", "x.5", old, "x.8", "", "x.9", next)
			stands(t, j, 9, 0, len(next), api.ErrOff)
		default:
			are(t, d, "x.3", "3", "x.8", "", "x.9", next)
			safeAre(t, d, "x.3", "3", "x.8", "", "x.9", next)
			stands(t, j, 9, 0, len(next), api.OK)
		}
		if e != j.Err() || d.On() != (fuse > 2) {
			t.Error(fuse, e, d.On())
		}
		if fuse == 4 && (d.Sync("x.9") != api.OK || d.Sync("x.9") != api.ErrOff) {
			t.Error("more than three operations")
		}
	}
}

// keeps checks that j returns e from now on, whatever it is asked, and does nothing.
func keeps(t *testing.T, j *journal.Journal, d *disk.Disk, e api.Errno) {
	t.Helper()
	long := strings.Repeat("q", mostOfRecord+1)
	before, n, count, size := contents(d), j.Generation(), j.Count(), j.Size()
	for range 2 {
		for _, got := range []api.Errno{j.Err(), j.Append(), appendTo(j, "a"), appendTo(j, "a", ""), appendTo(j, long), j.Begin(nil), j.Begin([]byte("a")), j.Begin([]byte(long))} {
			if got != e {
				t.Errorf("%d, not %d", got, e)
			}
		}
	}
	are(t, d, before...)
	stands(t, j, n, count, size, e)
}

// After an error of the disk it stays, also once the disk would do it.
func TestErrorsStay(t *testing.T) {
	for fuse := range 3 {
		for _, begins := range []bool{false, true} {
			d := with(t, "x.1", first("h"))
			j := opened(t, d, "g", "h")
			ok(t, d.Fuse(fuse))
			e := api.OK
			if begins {
				e = j.Begin([]byte("f"))
			} else {
				e = appendTo(j, "a")
			}
			if e == api.OK {
				if e = j.Begin(nil); e != api.ErrOff {
					t.Error(e)
				}
			}
			keeps(t, j, d, api.ErrOff)
			ok(t, d.Crash(nil))
			keeps(t, j, d, api.ErrOff)
		}
	}
}

func TestAppendWithoutRoom(t *testing.T) {
	s := first("h")
	for left := range len(frames("", "ab")) {
		d := fresh(t, len(s)+left)
		j := opened(t, d, "h", "h")
		if e := appendTo(j, "", "ab"); e != api.ErrFull {
			t.Fatal(left, e)
		}
		are(t, d, "x.1", s)
		keeps(t, j, d, api.ErrFull)
	}
	d := fresh(t, len(s)+len(frames("", "ab")))
	j := opened(t, d, "h", "h")
	ok(t, appendTo(j, "", "ab"))
	if e := appendTo(j, ""); e != api.ErrFull {
		t.Error(e)
	}
	ok(t, d.Remove("x.1"))
	keeps(t, j, d, api.ErrFull)
}

// A begin needs room for both generations.
func TestBeginWithoutRoom(t *testing.T) {
	s := first("h", "a")
	for left := range 20 {
		d := fresh(t, len(s)+left)
		ok(t, d.Append("x.1", []byte(s)))
		j := opened(t, d, "h", "h", "a")
		e := j.Begin([]byte("gg"))
		if left >= len(first("gg")) {
			ok(t, e)
			are(t, d, "x.2", first("gg"))
			continue
		}
		if e != api.ErrFull {
			t.Error(left, e)
		}
		are(t, d, "x.1", s)
		stands(t, j, 1, 1, len(s), api.ErrFull)
		keeps(t, j, d, api.ErrFull)
	}
}

func TestBeginWithoutAGreaterGeneration(t *testing.T) {
	long := []byte(strings.Repeat("q", mostOfRecord+1))
	for _, files := range [][]string{{"x.1099511627776", first("h")}, {"x.1", first("h"), "x.1099511627776", ""}} {
		d := with(t, files[0], files[1])
		j := opened(t, d, "g", "h")
		if len(files) > 2 {
			ok(t, d.Append(files[2], nil))
		}
		// ErrLong comes first, and does not stay.
		if e := j.Begin(long); e != api.ErrLong || j.Err() != api.OK {
			t.Error(e, j.Err())
		}
		ok(t, d.Fuse(0))
		if e := j.Begin([]byte("g")); e != api.ErrFull || !d.On() {
			t.Error(e, d.On())
		}
		ok(t, d.Fuse(-1))
		keeps(t, j, d, api.ErrFull)
		are(t, d, files...)
	}
	d := with(t, "x.1099511627775", first("h"))
	j := opened(t, d, "g", "h")
	ok(t, appendTo(j, "a"), j.Begin([]byte("g")), appendTo(j, "b"))
	stands(t, j, lastGeneration, 1, len(first("g")+frame("b")), api.OK)
	are(t, d, "x.1099511627776", first("g")+frame("b"))
}

// ErrNone is an error of the disk as well: somebody else removed the previous file.
func TestBeginWithoutThePreviousFile(t *testing.T) {
	d := with(t, "x.3", first("h"))
	j := opened(t, d, "g", "h")
	ok(t, d.Remove("x.3"))
	if e := j.Begin([]byte("g")); e != api.ErrNone {
		t.Error(e)
	}
	are(t, d, "x.1", first("g"))
	keeps(t, j, d, api.ErrNone)
}

// Neither an append of nothing nor questions hang on the disk.
func TestADiskThatIsOff(t *testing.T) {
	d := with(t, "x.1", first("h")+frame("a"))
	j := opened(t, d, "g", "h", "a")
	ok(t, d.Fuse(0))
	if d.Remove("y") != api.ErrOff {
		t.Error("on")
	}
	ok(t, j.Append(), j.Err())
	stands(t, j, 1, 1, len(first("h")+frame("a")), api.OK)
	if e := j.Append([]byte(strings.Repeat("q", mostOfRecord+1))); e != api.ErrLong {
		t.Error(e)
	}
	ok(t, j.Err())
	if e := appendTo(j, "b"); e != api.ErrOff {
		t.Error(e)
	}
	keeps(t, j, d, api.ErrOff)
}

func TestInvalidJournals(t *testing.T) {
	long := []byte(strings.Repeat("q", mostOfRecord+1))
	for _, j := range []*journal.Journal{nil, {}, new(journal.Journal)} {
		for _, e := range []api.Errno{j.Err(), j.Append(), j.Append([]byte("a")), j.Append(long), j.Begin(nil), j.Begin([]byte("a")), j.Begin(long), j.Err()} {
			if e != api.ErrNil {
				t.Error(e)
			}
		}
		if j.Generation() != 0 || j.Count() != 0 || j.Size() != 0 {
			t.Error(j.Generation(), j.Count(), j.Size())
		}
	}
}
