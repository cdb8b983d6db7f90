package journal_test

import (
	"bytes"
	"reflect"
	"slices"
	"strings"
	"testing"
	"unsafe"

	"drawbridge/api"
	"drawbridge/journal"
)

// Rules 2, 3, 4 and 6

// fill writes over b and over its spare capacity.
func fill(b []byte, c byte) {
	b = b[:cap(b)]
	for i := range b {
		b[i] = c
	}
}

// withRoom is s with spare capacity that is filled with ee.
func withRoom(s string) []byte {
	b := append([]byte(s), bytes.Repeat([]byte{0xee}, 100)...)
	return b[:len(s)]
}

// unchanged checks that b, which withRoom made, is as it was.
func unchanged(t *testing.T, b []byte, s string) {
	t.Helper()
	if all := b[:len(s)+100]; !bytes.Equal(all, append([]byte(s), bytes.Repeat([]byte{0xee}, 100)...)) {
		t.Errorf("%.99x", all)
	}
}

func TestNoArgumentIsChanged(t *testing.T) {
	for _, s := range []string{"", "a", frames("a", "", "bc"), frames("a", "b") + "x", first("h"), strings.Repeat("q", 1000)} {
		b := withRoom(s)
		f, e := journal.Frame(b)
		journal.Frames(b)
		unchanged(t, b, s)
		d := fresh(t, 10000)
		j, _, again := journal.Open(d, "x", b)
		ok(t, e, again)
		one, two := withRoom(s), withRoom(s)
		records := [][]byte{one, two, b, one, {0xee}}
		ok(t, j.Append(records[:4]...), j.Begin(two), j.Append(records[:2]...))
		unchanged(t, b, s)
		unchanged(t, one, s)
		unchanged(t, two, s)
		if !slices.Equal(texts(records), []string{s, s, s, s, "\xee"}) || string(f) != frame(s) {
			t.Errorf("%.99q", records)
		}
		opened(t, d, "h", s, s, s)
	}
}

// The spare capacity of an argument is none of it.
func TestSpareCapacityIsNotRead(t *testing.T) {
	whole := []byte(frames("a", "bc"))
	for n := range whole {
		if l, _ := journal.Frames(whole[:n]); len(l) > 1 || n < 9 && len(l) > 0 {
			t.Errorf("%d: %q", n, l)
		}
	}
	d := fresh(t, 1000)
	j, _, _ := journal.Open(d, "x", withRoom("h"))
	ok(t, j.Append([][]byte{withRoom("a"), withRoom(""), withRoom("c")}[:2]...))
	are(t, d, "x.1", first("h")+frames("a", ""))
	f, _ := journal.Frame(withRoom("a"))
	if bytes.Contains(f[:cap(f)], []byte{0xee}) {
		t.Errorf("%x", f[:cap(f)])
	}
}

func TestNothingOfAnArgumentIsKept(t *testing.T) {
	for _, s := range []string{"", "a", strings.Repeat("xyz", 100)} {
		p, b, head, more := withRoom(s), withRoom(frames(s, "", s)), withRoom(s), withRoom(s)
		f, _ := journal.Frame(p)
		l, n := journal.Frames(b)
		d := fresh(t, 10000)
		j, records, e := journal.Open(d, "x", head)
		list := [][]byte{more, more}
		ok(t, e, j.Append(list...))
		for i, b := range [][]byte{p, b, head, more} {
			fill(b, byte(i))
		}
		clear(list)
		if string(f) != frame(s) || !slices.Equal(texts(l), []string{s, "", s}) || n != 24+2*len(s) || !slices.Equal(texts(records), []string{s}) {
			t.Errorf("%.99q %.99q %.99q", f, l, records)
		}
		are(t, d, "x.1", first(s)+frames(s, s))
		head = withRoom(s)
		ok(t, j.Begin(head))
		fill(head, 7)
		ok(t, j.Append(nil))
		are(t, d, "x.2", first(s)+frame(""))
	}
}

// within reports whether the memory of p is a piece of that of b.
func within(p, b []byte) bool {
	at, begin := uintptr(unsafe.Pointer(unsafe.SliceData(p))), uintptr(unsafe.Pointer(unsafe.SliceData(b)))
	return at >= begin && at < begin+uintptr(cap(b))
}

// A record without bytes must not keep all those that it is read from, either.
func TestRecordsAreNoPieces(t *testing.T) {
	b := []byte(frames("", "a", "", "bcd", ""))
	l, _ := journal.Frames(b)
	head := make([]byte, 0, 1000)
	_, records, _ := journal.Open(fresh(t, 100), "x", head)
	for _, p := range l {
		if within(p, b) {
			t.Errorf("%q is a piece", p)
		}
	}
	if within(records[0], head) {
		t.Error("the head is a piece")
	}
	p := make([]byte, 5, 1000)
	if f, _ := journal.Frame(p); within(f, p) || within(p, f) {
		t.Error("the frame is a piece")
	}
}

// A name may be a piece of a greater text.
func TestANameIsNotKept(t *testing.T) {
	text := strings.Repeat("abc", 100)
	j, _, e := journal.Open(fresh(t, 100), text[:3], nil)
	ok(t, e)
	all := reflect.ValueOf(j).Elem()
	for i := range all.NumField() {
		if f := all.Field(i); f.Kind() == reflect.String && unsafe.StringData(f.String()) == unsafe.StringData(text) {
			t.Error("it is kept")
		}
	}
	if file, _ := journal.File(text[:3], 1); unsafe.StringData(file) == unsafe.StringData(text) {
		t.Error("it is a piece")
	}
}

// Whatever is written to results, all others stay the same.
func TestNoResultsShareMemory(t *testing.T) {
	s := frames("ab", "cd", "", "ef")
	for i := range 4 {
		l, _ := journal.Frames([]byte(s))
		fill(l[i], 1)
		l[i] = []byte([]string{"ab", "cd", "", "ef"}[i])
		if !slices.Equal(texts(l), []string{"ab", "cd", "", "ef"}) {
			t.Errorf("%q", l)
		}
	}
	for _, file := range []string{first("h", "a", "b") + frames("c", "d"), first("h", "a", "b") + frames("c", "d") + "x", ""} {
		want := []string{"h", "a", "b", "c", "d"}
		if file == "" {
			want = []string{"h"}
		}
		for i := range want {
			d := with(t, "x.1", file)
			_, l, e := journal.Open(d, "x", []byte("h"))
			ok(t, e)
			before := contents(d)
			fill(l[i], 1)
			l[i] = []byte(want[i])
			if !slices.Equal(texts(l), want) {
				t.Errorf("%q", l)
			}
			are(t, d, before...)
		}
	}
	one, _ := journal.Frame([]byte("a"))
	two, _ := journal.Frame([]byte("a"))
	fill(one, 1)
	if string(two) != frame("a") {
		t.Errorf("%x", two)
	}
}

// What an open journal does hangs on none of what it returned.
func TestResultsAreNotKept(t *testing.T) {
	d := with(t, "x.1", first("h", "a")+frame("b"))
	j, l, e := journal.Open(d, "x", nil)
	ok(t, e)
	for i := range l {
		fill(l[i], 1)
	}
	clear(l)
	ok(t, appendTo(j, "c"))
	are(t, d, "x.1", first("h", "a")+frames("b", "c"))
	ok(t, j.Begin([]byte("g")), appendTo(j, "d"))
	are(t, d, "x.2", first("g")+frame("d"))
}

func TestNilAndEmptyAreTheSame(t *testing.T) {
	for _, none := range [][]byte{nil, {}, make([]byte, 0, 9), []byte("xyz")[:0]} {
		if f, e := journal.Frame(none); e != api.OK || string(f) != frame("") {
			t.Errorf("%x %d", f, e)
		}
		if l, n := journal.Frames(none); len(l) != 0 || n != 0 {
			t.Errorf("%q %d", l, n)
		}
		d := fresh(t, 1000)
		j, l, e := journal.Open(d, "x", none)
		if e != api.OK || len(l) != 1 || len(l[0]) != 0 {
			t.Errorf("%q %d", l, e)
		}
		ok(t, j.Append(none), j.Append(none, none))
		are(t, d, "x.1", first("")+frames("", "", ""))
		ok(t, j.Begin(none))
		are(t, d, "x.2", first(""))
	}
}

// The same calls come to the same.
func TestTheSameCallsComeToTheSame(t *testing.T) {
	var want []string
	for range 20 {
		d := with(t, "x.3", "", "x.20", "a", "x.4", first("h", "a")+"torn", "y.1", "b")
		ok(t, d.Fuse(4))
		refused(t, d, "x", "g", api.ErrOff)
		ok(t, d.Crash(nil))
		got := contents(d)
		if want == nil {
			want = got
		}
		if !slices.Equal(got, want) {
			t.Errorf("%q, and not %q", got, want)
		}
	}
}
