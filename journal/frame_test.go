package journal_test

import (
	"encoding/binary"
	"hash/crc32"
	"math"
	"math/rand"
	"slices"
	"strings"
	"testing"

	"drawbridge/api"
	"drawbridge/journal"
)

// P13.1

// The checksums are those of another implementation.
func TestFrame(t *testing.T) {
	for p, want := range map[string]string{
		"":          "\x00\x00\x00\x00\x21\x44\xdf\x1c",
		"ab":        "\x00\x00\x00\x02\x6d\x1c\x2f\x5fab",
		"\x00":      "\x00\x00\x00\x01\xdf\x39\xc6\x5c\x00",
		"123456789": "\x00\x00\x00\x09\xde\x9c\x40\xc0123456789",
	} {
		if got, e := journal.Frame([]byte(p)); e != api.OK || string(got) != want {
			t.Errorf("%q: %q (%d), not %q", p, got, e, want)
		}
	}
}

func TestFramesOfEachLength(t *testing.T) {
	r := rand.New(rand.NewSource(1))
	for _, n := range []int{0, 1, 2, 3, 4, 5, 7, 8, 9, 127, 128, 255, 256, 257, 1000, 65535, 65536, 65537, mostOfRecord - 1, mostOfRecord,
		mostOfRecord + 1, 1 << 22, mostOfFrame - 1, mostOfFrame} {
		p := make([]byte, n)
		r.Read(p)
		got, e := journal.Frame(p)
		if e != api.OK || string(got) != frame(string(p)) {
			t.Errorf("%d bytes: %.20x (%d)", n, got, e)
		}
		l, size := journal.Frames(got)
		if len(l) != 1 || string(l[0]) != string(p) || size != n+8 {
			t.Errorf("%d bytes: %d records of %d bytes", n, len(l), size)
		}
	}
	for _, n := range []int{mostOfFrame + 1, mostOfFrame + 2, 2 * mostOfFrame} {
		if got, e := journal.Frame(make([]byte, n)); e != api.ErrLong || got != nil {
			t.Errorf("%d bytes: %.20x (%d)", n, got, e)
		}
	}
	if mostOfFrame != api.MaxList || mostOfRecord != api.MaxRecord || lastGeneration != api.MaxGeneration {
		t.Error(api.MaxList, api.MaxRecord, api.MaxGeneration)
	}
}

// visits checks what Frames tells of s.
func visits(t *testing.T, s string, size int, want ...string) {
	t.Helper()
	l, n := journal.Frames([]byte(s))
	if n != size || !slices.Equal(texts(l), want) {
		t.Errorf("%.99q: %.99q of %d bytes, not %.99q of %d", s, l, n, want, size)
	}
}

func TestFrames(t *testing.T) {
	visits(t, "", 0)
	visits(t, frame(""), 8, "")
	visits(t, frame("ab"), 10, "ab")
	visits(t, frames("ab", "", "c", "", ""), 43, "ab", "", "c", "", "")
	visits(t, frames("ab", "c")+"x", 19, "ab", "c")
	visits(t, "x"+frames("ab", "c"), 0)
	visits(t, frame(frames("ab", "c")), 27, frames("ab", "c"))
	visits(t, strings.Repeat(frame("x"), 1000), 9000, slices.Repeat([]string{"x"}, 1000)...)
	visits(t, strings.Repeat("\x00", 100), 0)
	visits(t, strings.Repeat("\xff", 100), 0)
}

// A frame of which any byte is missing is not complete, and neither is what comes after it read.
func TestFramesThatAreCut(t *testing.T) {
	records := []string{"", "ab", "\x00\x00\x00\x00", "", "xyz", strings.Repeat("q", 300)}
	whole := frames(records...)
	for n := range len(whole) + 1 {
		had, size := []string(nil), 0
		for i := range records {
			if s := frames(records[:i+1]...); len(s) <= n {
				had, size = records[:i+1], len(s)
			}
		}
		visits(t, whole[:n], size, had...)
	}
}

// Each bit of a frame is covered: those of the length, of the checksum and of the record.
func TestFramesWithChangedBits(t *testing.T) {
	for _, records := range [][]string{{"a", "bcd", "e"}, {"", "", ""}, {"abcdefghij", "k", ""}} {
		whole := frames(records...)
		begin := 0
		for i, p := range records {
			end := begin + 8 + len(p)
			for at := begin; at < end; at++ {
				for bit := range 8 {
					b := []byte(whole)
					b[at] ^= 1 << bit
					visits(t, string(b), begin, records[:i]...)
				}
			}
			begin = end
		}
	}
}

// A checksum of all but the length, of the length alone, or with its bytes in another order is not correct.
func TestOtherChecksums(t *testing.T) {
	length := "\x00\x00\x00\x02"
	sum := func(s string) uint32 { return crc32.ChecksumIEEE([]byte(s)) }
	right := sum(length + "ab")
	for _, x := range []uint32{sum("ab"), sum(length), sum("ab" + length), 0, ^right, right + 1, sum(length) + sum("ab"), sum("\x02\x00\x00\x00ab")} {
		visits(t, length+string(binary.BigEndian.AppendUint32(nil, x))+"ab", 0)
	}
	visits(t, length+string(binary.LittleEndian.AppendUint32(nil, right))+"ab", 0)
	visits(t, "\x02\x00\x00\x00"+string(binary.BigEndian.AppendUint32(nil, right))+"ab", 0)
	visits(t, length+string(binary.BigEndian.AppendUint32(nil, right))+"ab", 10, "ab")
}

// Bytes in a frame are at most 2^23, whatever the checksum says.
func TestFramesThatAreTooLong(t *testing.T) {
	all := strings.Repeat("abcdefgh", mostOfFrame/8+1)
	visits(t, frames("x", all[:mostOfFrame], "y"), 26+mostOfFrame, "x", all[:mostOfFrame], "y")
	visits(t, frames("x", all[:mostOfFrame+1], "y"), 9, "x")
	visits(t, frame(all), 0)
	for _, n := range []uint32{mostOfFrame, mostOfFrame + 1, math.MaxInt32, 1 << 31, math.MaxUint32 - 8, math.MaxUint32 - 7, math.MaxUint32} {
		length := string(binary.BigEndian.AppendUint32(nil, n))
		sum := binary.BigEndian.AppendUint32(nil, crc32.ChecksumIEEE([]byte(length+"ab")))
		visits(t, frame("x")+length+string(sum)+"ab", 9, "x")
	}
}

// What Frames tells of any bytes is what a second reading tells.
func TestFramesOfAnyBytes(t *testing.T) {
	r := rand.New(rand.NewSource(2))
	for range 20000 {
		var records []string
		for range r.Intn(4) {
			records = append(records, strings.Repeat("\x00", r.Intn(3))+strings.Repeat("a", r.Intn(3)))
		}
		b := []byte(frames(records...))
		if len(b) > 0 && r.Intn(2) == 0 {
			b[r.Intn(len(b))] = byte(r.Intn(3))
		}
		b = b[:len(b)-r.Intn(min(3, len(b)+1))]
		var want []string
		rest := string(b)
		for p, more, ok := cut(rest); ok; p, more, ok = cut(rest) {
			want, rest = append(want, p), more
		}
		visits(t, string(b), len(b)-len(rest), want...)
	}
}

func TestFile(t *testing.T) {
	for _, name := range []string{"a", "z", "x", "reg", "gate", "abcdefgh", "zzzzzzzz", "aaaaaaaa"} {
		for n, want := range map[int64]string{1: "1", 2: "2", 9: "9", 10: "10", 12: "12", 100: "100", 123456789: "123456789", 1 << 32: "4294967296",
			lastGeneration - 1: "1099511627775", lastGeneration: "1099511627776"} {
			if got, e := journal.File(name, n); e != api.OK || got != name+"."+want {
				t.Errorf("%s %d: %q %d", name, n, got, e)
			}
		}
		for _, n := range []int64{0, -1, -2, -12, lastGeneration + 1, lastGeneration + 2, 2 * lastGeneration, 1<<32 - lastGeneration, math.MaxInt64, math.MinInt64} {
			if got, e := journal.File(name, n); e != api.ErrArg || got != "" {
				t.Errorf("%s %d: %q %d", name, n, got, e)
			}
		}
	}
}

func TestNamesOfEachByte(t *testing.T) {
	for c := range 256 {
		one := string([]byte{byte(c)})
		for _, name := range []string{one, one + "a", "a" + one, "a" + one + "b", "aaaaaaa" + one, one + "aaaaaaa"} {
			got, e := journal.File(name, 7)
			if c >= 'a' && c <= 'z' {
				if e != api.OK || got != name+".7" {
					t.Errorf("%q: %q %d", name, got, e)
				}
				continue
			}
			if e != api.ErrArg || got != "" {
				t.Errorf("%q: %q %d", name, got, e)
			}
			refused(t, fresh(t, 100), name, "h", api.ErrArg)
		}
	}
}

func TestNamesOfEachLength(t *testing.T) {
	for n := range 60 {
		want := api.OK
		if n < 1 || n > 8 {
			want = api.ErrArg
		}
		for _, c := range []string{"a", "z"} {
			name := strings.Repeat(c, n)
			if got, e := journal.File(name, 1); e != want || want == api.OK != (got == name+".1") {
				t.Errorf("%q: %q %d", name, got, e)
			}
			d := fresh(t, 100)
			if j, _, e := journal.Open(d, name, nil); e != want || (j != nil) != (want == api.OK) {
				t.Errorf("%q: %d", name, e)
			}
		}
	}
	for _, name := range unlikeNames() {
		if got, e := journal.File(name, 1); e != api.ErrArg || got != "" {
			t.Errorf("%q: %q %d", name, got, e)
		}
	}
}

// unlikeNames are names that are not valid.
func unlikeNames() []string {
	return []string{"", "abcdefghi", strings.Repeat("a", 4100), "A", "aB", "a.b", "a.", ".", "x1", "1", "a b", "ab\n", "\x00", "a/", "a_b", "-",
		"é", "ß", "а", "ａ", "a\u0301", "\ufeffa", "\U0001d41a", "\xff", "a\x80"}
}
