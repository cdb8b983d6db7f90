package hkdf_test

import (
	"bytes"
	"testing"

	"drawbridge/api"
	"drawbridge/hkdf"
)

// Rules 2, 3, 4 and 6

// spare returns n bytes with spare capacity that is filled with ee, and all of the memory.
func spare(n int) (b, all []byte) {
	all = append(some(n), bytes.Repeat([]byte{0xee}, 200)...)
	return all[:n], all
}

// fill writes over b and over its spare capacity.
func fill(b []byte, c byte) {
	b = b[:cap(b)]
	for i := range b {
		b[i] = c
	}
}

// untouched checks that all is what spare returned beside n bytes.
func untouched(t *testing.T, n int, all []byte) {
	t.Helper()
	if _, want := spare(n); !bytes.Equal(all, want) {
		t.Fatalf("an argument of %d bytes was written: %x", n, all)
	}
}

func TestNoArgumentIsChanged(t *testing.T) {
	for n := range 140 {
		for _, size := range []int{0, 1, 31, 64, 65, 120} {
			key, allKey := spare(size)
			b, allB := spare(n)
			fixed := unlike()
			hkdf.Sum(key, b)
			hkdf.Mac(key, b, b)
			hkdf.Extract(key, b)
			hkdf.Key(key, b, b)
			hkdf.Key(b, key, key)
			hkdf.Expand(fixed, b, 70)
			hkdf.Expand(fixed, b, 255*32+1)
			untouched(t, size, allKey)
			untouched(t, n, allB)
			if fixed != unlike() {
				t.Fatal("the key was written")
			}
		}
	}
}

// A list of pieces is an argument too: its slices stay what they are, and so does its spare capacity.
func TestNoListOfPiecesIsChanged(t *testing.T) {
	b := some(300)
	all := [][]byte{b[:10], nil, b[10:64], b[64:64], b[64:200], {}, b[200:], some(7), some(8), some(9)}
	want := make([][]byte, len(all))
	copy(want, all)
	for n := range len(all) {
		for range 2 {
			hkdf.Sum(all[:n]...)
			hkdf.Mac(some(20), all[:n]...)
			hkdf.Mac(some(80), all[:n]...)
		}
		for i := range all {
			if len(all[i]) != len(want[i]) || cap(all[i]) != cap(want[i]) || (all[i] == nil) != (want[i] == nil) ||
				len(all[i]) > 0 && &all[i][0] != &want[i][0] {
				t.Fatalf("%d pieces: piece %d has %d bytes and not %d", n, i, len(all[i]), len(want[i]))
			}
		}
	}
	if !bytes.Equal(b, some(300)) {
		t.Error("the bytes were written")
	}
}

func TestResultsAreNewMemory(t *testing.T) {
	wantPad, wantOut := hkdf.Pad(5), expanded(t, unlike(), some(3), 70)
	for range 3 {
		for _, n := range []int64{0, 5, 55, 56, -1} {
			fill(hkdf.Pad(n), 0x77)
		}
		for _, n := range []int{0, 1, 32, 70, -1} {
			fill(expanded(t, unlike(), some(3), n), 0x77)
		}
		if got := hkdf.Pad(5); !bytes.Equal(got, wantPad) {
			t.Fatalf("%x", got)
		}
		if got := expanded(t, unlike(), some(3), 70); !bytes.Equal(got, wantOut) {
			t.Fatalf("%x", got)
		}
	}
	one, two := expanded(t, unlike(), some(3), 70), expanded(t, unlike(), some(3), 70)
	fill(one, 1)
	if !bytes.Equal(two, wantOut) {
		t.Errorf("%x", two)
	}
}

func TestNothingOfAnArgumentIsKept(t *testing.T) {
	info, all := spare(40)
	want := expand(unlike(), some(40))[:100]
	got := expanded(t, unlike(), info, 100)
	if bytes.Contains(got[:cap(got)], []byte{0xee, 0xee, 0xee, 0xee}) {
		t.Error("spare capacity was returned")
	}
	fill(all, 2)
	if !bytes.Equal(got, want) {
		t.Errorf("%x", got)
	}
	// The same memory with other bytes in it.
	if got := expanded(t, unlike(), info, 100); !bytes.Equal(got, expand(unlike(), bytes.Repeat([]byte{2}, 40))[:100]) {
		t.Errorf("%x", got)
	}
}

func TestOneMemoryForAllArguments(t *testing.T) {
	all := some(200)
	if got, want := hkdf.Mac(all[10:90], all[20:150], all[50:60], all[:200]),
		mac(some(200)[10:90], append(append(some(150)[20:], some(60)[50:]...), some(200)...)); got != want {
		t.Errorf("%x, not %x", got, want)
	}
	if got, want := hkdf.Key(all[:50], all[:60], all[:70]), hkdf.Key(some(50), some(60), some(70)); got != want {
		t.Errorf("%x, not %x", got, want)
	}
	if !bytes.Equal(all, some(200)) {
		t.Error("the bytes were written")
	}
}

func TestNilAndEmptyAreTheSame(t *testing.T) {
	none := [][]byte{nil, {}, make([]byte, 0, 9), some(70)[:0]}
	wantMac, wantKey, wantOut := mac(nil, nil), hkdf.Key(nil, nil, nil), expand(unlike(), nil)[:50]
	for _, a := range none {
		for _, b := range none {
			if got := hkdf.Mac(a, b); got != wantMac || got != hkdf.Mac(a) || got != hkdf.Mac(a, b, a) {
				t.Errorf("%x", got)
			}
			if got := hkdf.Extract(a, b); got != wantMac {
				t.Errorf("%x", got)
			}
			for _, c := range none {
				if got := hkdf.Key(a, b, c); got != wantKey {
					t.Errorf("%x", got)
				}
			}
		}
		if got := expanded(t, unlike(), a, 50); !bytes.Equal(got, wantOut) {
			t.Errorf("%x", got)
		}
	}
}

func TestNothingBesideAnError(t *testing.T) {
	if b, e := hkdf.Expand(unlike(), some(5), 255*32+1); e != api.ErrLong || len(b) != 0 || cap(b) != 0 {
		t.Errorf("%d of %d bytes, %d", len(b), cap(b), e)
	}
}
