package disk_test

import (
	"bytes"
	"slices"
	"strings"
	"testing"
	"unsafe"

	"drawbridge/api"
	"drawbridge/disk"
)

// Rules 2, 3, 4 and 7

// fill writes over b and over its spare capacity.
func fill(b []byte, c byte) {
	b = b[:cap(b)]
	for i := range b {
		b[i] = c
	}
}

// withRoom is s with spare capacity that is filled with ee.
func withRoom(s string) []byte {
	b := append([]byte(s), bytes.Repeat([]byte{0xee}, 100)...)
	return b[:len(s)]
}

func TestNothingOfAnArgumentIsKept(t *testing.T) {
	for _, s := range []string{"", "x", "xyz", strings.Repeat("xyz", 100)} {
		d := fresh(t, 10000)
		b := withRoom(s)
		ok(t, d.Append("a", b))
		fill(b, 1)
		reads(t, d, "a", s)
		b = withRoom(s)
		ok(t, d.Append("a", b), d.Sync("a"))
		fill(b, 2)
		b = withRoom(s)
		ok(t, d.Append("a", b), d.Append("a", []byte("q")))
		fill(b, 3)
		reads(t, d, "a", s+s+s+"q")
		safeAre(t, d, "a="+s+s)
	}
}

func TestNoArgumentIsChanged(t *testing.T) {
	d := fresh(t, 10000)
	all := append([]byte("xyz"), bytes.Repeat([]byte{0xee}, 100)...)
	for range 5 {
		ok(t, d.Append("a", all[:3]), d.Append("b", all[:1]), d.Append("a", all[1:2]), d.Sync("a"), d.Append("a", all[:3]), d.Crash([]int{2}), d.Sync("a"))
	}
	if !bytes.Equal(all, append([]byte("xyz"), bytes.Repeat([]byte{0xee}, 100)...)) {
		t.Errorf("%x", all)
	}
	parts := []int{9, -9, 3, 7, 7}
	ok(t, d.Append("a", all[:3]), d.Append("b", all[:3]), d.Crash(parts[:2]), d.Append("c", all[:3]), d.Crash(parts[:2:3]))
	if !slices.Equal(parts, []int{9, -9, 3, 7, 7}) {
		t.Error(parts)
	}
}

// The spare capacity of a list of parts has no parts.
func TestSpareCapacityIsNotRead(t *testing.T) {
	d := fresh(t, 100)
	ok(t, d.Append("a", []byte("xyz")), d.Append("b", []byte("xyz")), d.Crash([]int{1, 2}[:1]))
	named(t, d, "a")
	ok(t, d.Append("c", withRoom("q")))
	b, e := d.Read("c")
	if e != api.OK || bytes.Contains(b[:cap(b)], []byte{0xee}) {
		t.Errorf("%x", b[:cap(b)])
	}
}

// A name may be a piece of a greater text.
func TestANameIsNotKept(t *testing.T) {
	d := fresh(t, 100)
	text := strings.Repeat("abc", 100)
	ok(t, d.Append(text[:3], nil))
	if got := d.Names(); len(got) != 1 || got[0] != "abc" || unsafe.StringData(got[0]) == unsafe.StringData(text) {
		t.Error(got)
	}
}

// Whatever is written to results, the disk has the same.
func TestResultsAreNewMemory(t *testing.T) {
	d := fresh(t, 1000)
	ok(t, d.Append("a", []byte("xy")), d.Sync("a"), d.Append("b", []byte("xyz")), d.Sync("b"), d.Append("b", []byte("q")),
		d.Append("c", nil), d.Sync("c"), d.Append("d", []byte("q")))
	for range 3 {
		for _, name := range d.Names() {
			b, e := d.Read(name)
			ok(t, e)
			fill(b, 7)
		}
		for _, f := range d.Safe() {
			fill(f.Bytes, 8)
		}
		names, safe := d.Names(), d.Safe()
		for i := range names[:cap(names)] {
			names[:cap(names)][i] = "no"
		}
		for i := range safe[:cap(safe)] {
			safe[:cap(safe)][i] = api.File{Name: "no"}
		}
		named(t, d, "a", "b", "c", "d")
		safeAre(t, d, "a=xy", "b=xyz", "c=")
		reads(t, d, "b", "xyzq")
		reads(t, d, "d", "q")
	}
}

// Whatever the disk does later, results stay what they were.
func TestResultsStay(t *testing.T) {
	d := fresh(t, 1000)
	ok(t, d.Append("a", []byte("xy")), d.Sync("a"), d.Append("a", []byte("z")), d.Append("b", []byte("q")))
	b, _ := d.Read("a")
	names, safe := d.Names(), d.Safe()
	ok(t, d.Crash(nil), d.Append("a", []byte("vw")), d.Append("0", nil), d.Sync("a"), d.Remove("a"), d.Append("a", []byte("12345")))
	if string(b) != "xyz" || !slices.Equal(names, []string{"a", "b"}) || !slices.Equal(files(safe), []string{"a=xy"}) {
		t.Errorf("%s %s %s", b, names, safe)
	}
}

func TestNoResultsShareMemory(t *testing.T) {
	for _, more := range []string{"", "z"} {
		d := fresh(t, 1000)
		ok(t, d.Append("a", []byte("xy")), d.Sync("a"), d.Append("b", []byte("uv")), d.Sync("b"), d.Append("a", []byte(more)))
		one, _ := d.Read("a")
		two, _ := d.Read("a")
		safe, again := d.Safe(), d.Safe()
		fill(one, 1)
		fill(safe[0].Bytes, 2)
		if string(two) != "xy"+more || string(safe[1].Bytes) != "uv" || !slices.Equal(files(again), []string{"a=xy", "b=uv"}) {
			t.Errorf("%q %q %q", two, safe, again)
		}
	}
}

// Two disks have nothing in common.
func TestDisksAreApart(t *testing.T) {
	one, two := fresh(t, 10), fresh(t, 20)
	ok(t, one.Append("a", []byte("x")), two.Append("b", []byte("yz")), one.Fuse(0), two.Sync("b"))
	if one.Sync("a") != api.ErrOff || one.On() || !two.On() || one.Left() != 9 || two.Left() != 18 {
		t.Error(one.Left(), two.Left())
	}
	named(t, one, "a")
	named(t, two, "b")
	ok(t, one.Crash(nil))
	named(t, one)
	safeAre(t, two, "b=yz")
}

func TestNilAndEmptyAreTheSame(t *testing.T) {
	for _, none := range [][]byte{nil, {}, make([]byte, 0, 9), []byte("xyz")[:0]} {
		d := fresh(t, 0)
		ok(t, d.Append("a", none), d.Append("a", none))
		reads(t, d, "a", "")
		ok(t, d.Sync("a"), d.Crash([]int{}), d.Crash(nil), d.Crash(make([]int, 0, 5)))
		safeAre(t, d, "a=")
	}
}

func TestInvalidDisks(t *testing.T) {
	for _, d := range []*disk.Disk{nil, {}, new(disk.Disk)} {
		for _, name := range append(unlikeNames(), "a") {
			if got := operations(d, name); got != all(api.ErrNil) {
				t.Errorf("%q: %d", name, got)
			}
			if b, e := d.Read(name); e != api.ErrNil || len(b) > 0 || d.Size(name) != 0 {
				t.Errorf("%q: %q %d", name, b, e)
			}
		}
		if d.Append("a", make([]byte, 1<<25)) != api.ErrNil || d.Fuse(0) != api.ErrNil || d.Fuse(-1) != api.ErrNil ||
			d.Crash(nil) != api.ErrNil || d.Crash([]int{1, 2}) != api.ErrNil {
			t.Error("it is valid")
		}
		if len(d.Names()) > 0 || len(d.Safe()) > 0 || d.Left() != 0 || d.On() {
			t.Error(d.Names(), d.Safe(), d.Left(), d.On())
		}
	}
}

func TestNothingBesideAnError(t *testing.T) {
	if d, e := disk.New(-1); d != nil || e != api.ErrArg {
		t.Error(d, e)
	}
	d := fresh(t, 10)
	if b, e := d.Read("a"); b != nil || e != api.ErrNone {
		t.Error(b, e)
	}
	if b, e := (*disk.Disk)(nil).Read("a"); b != nil || e != api.ErrNil {
		t.Error(b, e)
	}
}
