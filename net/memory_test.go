package net_test

import (
	"bytes"
	"runtime"
	"strings"
	"testing"
	"unsafe"

	"drawbridge/api"
	"drawbridge/net"
)

// Rules 3, 4 and 7

const spare = 40 // bytes of spare capacity that roomy gives

// roomy is s with spare capacity that is filled.
func roomy(s string) []byte {
	b := append([]byte(s), bytes.Repeat([]byte{0xee}, spare)...)
	return b[:len(s)]
}

// fill writes over b and over its spare capacity.
func fill(b []byte, c byte) {
	b = b[:cap(b)]
	for i := range b {
		b[i] = c
	}
}

// share reports whether two slices are pieces of the same memory.
func share(a, b []byte) bool {
	from, other := uintptr(unsafe.Pointer(unsafe.SliceData(a))), uintptr(unsafe.Pointer(unsafe.SliceData(b)))
	within := from >= other && from < other+uintptr(cap(b)) || other >= from && other < from+uintptr(cap(a))
	return from != 0 && other != 0 && within
}

func texts() []string {
	return []string{"", "x", "xyz", strings.Repeat("xyz", 11), strings.Repeat("xyz", 3000)}
}

func TestNothingOfAnArgumentIsKept(t *testing.T) {
	for _, s := range texts() {
		n := fresh(t, 9)
		b := roomy(s)
		_, e := n.Send(1, 2, b)
		ok(t, e)
		if !bytes.Equal(b[:len(s)+spare], append([]byte(s), bytes.Repeat([]byte{0xee}, spare)...)) {
			t.Fatalf("%.20q was changed", s)
		}
		fill(b, 1)
		doubles(t, n, 1, 2)
		fill(b, 2)
		takes(t, n, 2, 1, 2, s)
		takes(t, n, 1, 1, 2, s)
	}
}

// The spare capacity of an argument is in no result.
func TestSpareCapacityIsNotRead(t *testing.T) {
	for _, s := range texts() {
		n := fresh(t, 9)
		_, e := n.Send(1, 2, roomy(s))
		ok(t, e)
		l := append(n.All(), n.For(2)...)
		f, e := n.Take(1)
		ok(t, e)
		for _, f := range append(l, f) {
			if bytes.Contains(f.Bytes[:cap(f.Bytes)], []byte{0xee}) {
				t.Fatalf("%.20q", s)
			}
		}
	}
}

// Whatever is written to results, the net has the same.
func TestResultsAreNewMemory(t *testing.T) {
	for _, s := range texts() {
		n := fresh(t, 9)
		sends(t, n, 1, 2, s, 1)
		sends(t, n, 2, 1, s, 2)
		doubles(t, n, 1, 3)
		r := &reading{room: 9}
		r.send(1, 2, s)
		r.send(2, 1, s)
		r.twice(1)
		for range 3 {
			for _, l := range [][]api.Flight{n.All(), n.For(2), n.For(1)} {
				for i := range l {
					fill(l[i].Bytes, 7)
				}
				for i := range l[:cap(l)] {
					l[:cap(l)][i] = api.Flight{Number: 9, From: 9, To: 9}
				}
			}
			r.agrees(t, n, "written to", everyEnd()...)
		}
		// One of two that are the same is written to, the other one is not.
		f, e := n.Take(1)
		ok(t, e)
		fill(f.Bytes, 8)
		takes(t, n, 3, 1, 2, s)
		takes(t, n, 2, 2, 1, s)
	}
}

// Whatever the net does later, results stay what they were.
func TestResultsStay(t *testing.T) {
	n := fresh(t, 9)
	sends(t, n, 1, 2, "abc", 1)
	sends(t, n, 2, 1, "de", 2)
	all, some := n.All(), n.For(2)
	f, e := n.Take(1)
	ok(t, e, n.Drop(2), n.Cut(1, 2))
	sends(t, n, 3, 2, "xyz", 3)
	doubles(t, n, 3, 4)
	first, second := api.Flight{Number: 1, From: 1, To: 2, Bytes: []byte("abc")}, api.Flight{Number: 2, From: 2, To: 1, Bytes: []byte("de")}
	if !same(all, []api.Flight{first, second}) || !same(some, []api.Flight{first}) || !same([]api.Flight{f}, some) {
		t.Error(told(all), told(some), told([]api.Flight{f}))
	}
}

func TestNoResultsShareMemory(t *testing.T) {
	for _, s := range texts() {
		n := fresh(t, 9)
		sends(t, n, 1, 2, s, 1)
		doubles(t, n, 1, 2)
		doubles(t, n, 2, 3)
		var bs [][]byte
		for _, l := range [][]api.Flight{n.All(), n.All(), n.For(2)} {
			for _, f := range l {
				bs = append(bs, f.Bytes)
			}
		}
		for number := range uint64(3) {
			f, e := n.Take(number + 1)
			ok(t, e)
			bs = append(bs, f.Bytes)
		}
		for i, a := range bs {
			for _, b := range bs[:i] {
				if share(a, b) {
					t.Fatalf("%.20q", s)
				}
			}
		}
	}
}

// Two nets have nothing in common.
func TestNetsAreApart(t *testing.T) {
	one, two := fresh(t, 1), fresh(t, 2)
	sends(t, one, 1, 2, "a", 1)
	ok(t, one.Cut(1, 2))
	sends(t, two, 1, 2, "b", 1)
	doubles(t, two, 1, 2)
	has(t, one, 1)
	notTaken(t, one, 1)
	takes(t, two, 2, 1, 2, "b")
	if two.Is(1, 2) || !one.Is(1, 2) {
		t.Error("cut")
	}
	has(t, one)
	has(t, two, 1)
}

// used is how many bytes are in use.
func used() uint64 {
	var m runtime.MemStats
	runtime.GC()
	runtime.ReadMemStats(&m)
	return m.HeapAlloc
}

// What has arrived, or was dropped or lost, is not kept, and what is doubled takes no further memory: a net with the
// greatest messages stays within what was passed to it.
func TestMemoryOfANet(t *testing.T) {
	n := fresh(t, mostRoom)
	long := make([]byte, mostWeight)
	before := used()
	for i := range uint64(20) {
		for range 4 {
			_, e := n.Send(1, 2, long)
			ok(t, e)
		}
		_, e := n.Take(4*i + 1)
		ok(t, e, n.Drop(4*i+2), n.Cut(1, 2))
		notTaken(t, n, 4*i+3)
		ok(t, n.Heal(1, 2), n.Drop(4*i+4))
		notSent(t, n, 1, 1, long, api.ErrArg)
	}
	if more := int64(used() - before); more > mostWeight {
		t.Error(more)
	}
	number, e := n.Send(1, 2, long)
	ok(t, e)
	for range mostRoom - 1 {
		_, e := n.Twice(number)
		ok(t, e)
	}
	if more := int64(used() - before); more > 4*mostWeight {
		t.Error(more)
	}
	if n.Len() != mostRoom {
		t.Error(n.Len())
	}
}

// No call makes a net of what New did not return.
func TestAZeroNetStaysInvalid(t *testing.T) {
	var n net.Net
	for range 3 {
		if e := n.Cut(1, 2); e != api.ErrNil {
			t.Error(e)
		}
		notSent(t, &n, 1, 2, []byte("a"), api.ErrNil)
	}
	if n.Len() != 0 || n.Is(1, 2) {
		t.Error(n.Len())
	}
}
