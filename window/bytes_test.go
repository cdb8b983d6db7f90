package window_test

import (
	"bytes"
	"math"
	"testing"

	"drawbridge/api"
	"drawbridge/window"
)

// written is the chapter's sentence about the bytes of the four numbers.
func written(w api.Window) []byte {
	var b []byte
	for _, x := range []uint64{w.Floor, w.Top, w.Seen, w.Limit} {
		p := great(x).Bytes()
		b = append(append(b, byte(len(p))), p...)
	}
	return b
}

// some are valid windows whose bytes differ in much.
func some() []api.Window {
	return []api.Window{
		window.New(),
		{Floor: 100, Top: 99, Limit: 100},
		{Floor: 1, Top: 2, Seen: 3, Limit: 4},
		{Floor: 255, Top: 300, Seen: 0x10001, Limit: 70000},
		{Floor: 1, Top: 1 << 32, Seen: math.MaxUint64, Limit: 1 << 59},
		{Floor: most - 70, Top: most, Seen: 0x8070605040302011, Limit: most + 1},
		{Floor: most + 1, Top: most, Limit: most + 1},
	}
}

// P7.2

func TestBytes(t *testing.T) {
	for _, x := range []struct {
		w api.Window
		b []byte
	}{
		{api.Window{Floor: 1, Limit: 1}, []byte{1, 1, 0, 0, 1, 1}},
		{api.Window{Floor: 3, Top: 5, Seen: 5, Limit: 9}, []byte{1, 3, 1, 5, 1, 5, 1, 9}},
		{api.Window{Floor: 100, Top: 300, Seen: 1<<63 | 1, Limit: 65536}, []byte{1, 100, 2, 1, 44, 8, 128, 0, 0, 0, 0, 0, 0, 1, 3, 1, 0, 0}},
		{api.Window{Floor: most + 1, Top: most, Limit: most + 1},
			[]byte{8, 16, 0, 0, 0, 0, 0, 0, 1, 8, 16, 0, 0, 0, 0, 0, 0, 0, 0, 8, 16, 0, 0, 0, 0, 0, 0, 1}},
	} {
		if b, e := window.Bytes(x.w); !bytes.Equal(b, x.b) || e != api.OK {
			t.Errorf("%x: %x %d and not %x", x.w, b, e, x.b)
		}
		if w, e := window.Read(x.b); w != x.w || e != api.OK {
			t.Errorf("%x: %x %d and not %x", x.b, w, e, x.w)
		}
	}
}

func TestBytesAndReadOfAllEdges(t *testing.T) {
	known := map[string]api.Window{}
	for _, w := range windows() {
		b, e := window.Bytes(w)
		got, f := window.Read(written(w))
		if !valid(w) {
			if len(b) != 0 || cap(b) != 0 || e != api.ErrArg {
				t.Fatalf("%x: %x %d", w, b, e)
			}
			refused(t, got, f, api.ErrBad)
			continue
		}
		if !bytes.Equal(b, written(w)) || e != api.OK {
			t.Fatalf("%x: %x %d", w, b, e)
		}
		becomes(t, got, f, w)
		if other, there := known[string(b)]; there && other != w {
			t.Fatalf("%x and %x: %x", w, other, b)
		}
		known[string(b)] = w
	}
}

func TestReadOfWrongBytes(t *testing.T) {
	for _, b := range [][]byte{
		nil,
		{0},
		{1},
		{1, 1},
		{1, 1, 0},
		{1, 1, 0, 0},                             // Limit is missing
		{1, 1, 0, 0, 1},                          // a byte of Limit is missing
		{1, 1, 0, 0, 2, 1},                       // a byte of Limit is missing
		{1, 1, 0, 0, 1, 1, 0},                    // a byte is left
		{1, 1, 0, 0, 1, 1, 1, 1},                 // a number is left
		{0, 0, 0, 0},                             // Floor is below 1
		{0, 0, 0, 1, 1},                          // Floor is below 1
		{1, 1, 0, 0, 0},                          // Limit is below Floor
		{1, 2, 1, 1, 0, 1, 1},                    // Limit is below Floor
		{1, 3, 1, 1, 0, 1, 9},                    // Top is below Floor - 1
		{1, 1, 1, 1, 1, 1, 1, 1},                 // Top is not below Limit
		{1, 1, 1, 1, 0, 1, 9},                    // Top was not accepted
		{1, 1, 0, 1, 1, 1, 9},                    // nothing was accepted
		{1, 1, 1, 1, 1, 3, 1, 9},                 // 0 is below Floor
		{2, 0, 1, 0, 0, 1, 1},                    // a number with a byte too many
		{1, 1, 1, 0, 0, 1, 1},                    // the 0 of Top has a byte too many
		{1, 1, 0, 1, 0, 1, 1},                    // the 0 of Seen has a byte too many
		{1, 1, 0, 0, 2, 0, 1},                    // a number with a byte too many
		{9, 1, 0, 0, 1, 1},                       // no number
		{1, 1, 0, 0, 9},                          // no number
		{1, 1, 9, 0, 1, 1},                       // no number
		{255, 1, 0, 0, 1, 1},                     // no number
		{1, 1, 0, 0, 8, 16, 0, 0, 0, 0, 0, 0, 2}, // Limit is above MaxCounter + 1
		{1, 1, 0, 0, 8, 255, 255, 255, 255, 255, 255, 255, 255},
		{0, 8, 255, 255, 255, 255, 255, 255, 255, 255, 0, 0}, // Floor - 1 would overflow to Top
		bytes.Repeat([]byte{1}, 1000),
		append([]byte{1, 1, 0, 0, 1, 1}, make([]byte, 1<<16)...),
	} {
		w, e := window.Read(b)
		refused(t, w, e, api.ErrBad)
	}
}

// Each piece of the bytes, each byte behind them and each other byte in them is refused, or is another window's bytes.
func TestReadOfChangedBytes(t *testing.T) {
	for _, w := range some() {
		b := written(w)
		for n := range b {
			got, e := window.Read(b[:n])
			refused(t, got, e, api.ErrBad)
		}
		for x := range 256 {
			got, e := window.Read(append(written(w), byte(x)))
			refused(t, got, e, api.ErrBad)
			for i := range b {
				other := written(w)
				other[i] = byte(x)
				readsAsWritten(t, other)
			}
		}
	}
}

// readsAsWritten checks that b is refused, or read as the valid window of which it is the bytes.
func readsAsWritten(t *testing.T, b []byte) {
	t.Helper()
	w, e := window.Read(b)
	if e != api.OK {
		refused(t, w, e, api.ErrBad)
	} else if !valid(w) || !bytes.Equal(written(w), b) {
		t.Fatalf("%x: %x", b, w)
	}
}

// All bytes with a few small numbers: those are accepted which a valid window has.
func TestReadOfSmallNumbers(t *testing.T) {
	for floor := range uint64(6) {
		for top := range uint64(8) {
			for bits := range uint64(34) {
				for limit := range uint64(10) {
					w := api.Window{Floor: floor, Top: top, Seen: bits, Limit: limit}
					got, e := window.Read(written(w))
					if valid(w) {
						becomes(t, got, e, w)
					} else {
						refused(t, got, e, api.ErrBad)
					}
				}
			}
		}
	}
}

// Rules 3, 4 and 6

func TestResultsAreNewMemory(t *testing.T) {
	for _, w := range some() {
		first, _ := window.Bytes(w)
		second, _ := window.Bytes(w)
		first = first[:cap(first)]
		for i := range first {
			first[i] = 0x77
		}
		if !bytes.Equal(second, written(w)) {
			t.Errorf("%x", second)
		}
		if third, _ := window.Bytes(w); !bytes.Equal(third, written(w)) {
			t.Errorf("%x", third)
		}
	}
}

func TestReadChangesNothingAndReadsNoSpareCapacity(t *testing.T) {
	for _, w := range some() {
		all := append(written(w), written(w)...)
		want := append([]byte(nil), all...)
		size := len(written(w))
		for n := range all {
			got, e := window.Read(all[:n])
			if n == size {
				becomes(t, got, e, w)
			} else {
				refused(t, got, e, api.ErrBad)
			}
			if !bytes.Equal(all, want) {
				t.Fatalf("%x and not %x", all, want)
			}
		}
	}
}

func TestNilAndEmptyAreTheSame(t *testing.T) {
	for _, b := range [][]byte{nil, {}, []byte{1, 1, 0, 0, 1, 1}[:0], make([]byte, 0, 9)} {
		w, e := window.Read(b)
		refused(t, w, e, api.ErrBad)
	}
}
