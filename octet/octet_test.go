package octet_test

import (
	"bytes"
	"hash/crc32"
	"math"
	"math/rand"
	"testing"

	"drawbridge/api"
	"drawbridge/octet"
)

// edges are, for each length of a number, the least and the greatest one, and some between.
func edges() []uint64 {
	list := []uint64{0, 5, 300, math.MaxUint64}
	for size := 1; size <= 8; size++ {
		least := uint64(1) << (8 * (size - 1))
		list = append(list, least, least+1, least<<7, least<<7+least, least<<8-1)
	}
	return list
}

// spare returns p with spare capacity that is filled, and all of the memory.
func spare(p string) (b, all []byte) {
	all = append([]byte(p), bytes.Repeat([]byte{0xee}, 64)...)
	return all[:len(p)], all
}

// fill writes over b and over its spare capacity.
func fill(b []byte, c byte) {
	b = b[:cap(b)]
	for i := range b {
		b[i] = c
	}
}

func TestLimitsAndErrors(t *testing.T) {
	if api.MaxBlock != 1<<20 {
		t.Error(api.MaxBlock)
	}
	for want, e := range []api.Errno{
		api.OK, api.ErrNil, api.ErrArg, api.ErrLong, api.ErrBad, api.ErrMore, api.ErrNone, api.ErrThere,
		api.ErrOld, api.ErrFull, api.ErrState, api.ErrOff, api.ErrTag, api.ErrWho, api.ErrBusy,
	} {
		if int(e) != want {
			t.Error(want, e)
		}
	}
}

// P1.1

func TestNumberIsWritten(t *testing.T) {
	for _, x := range []struct {
		x    uint64
		want string
	}{
		{0, "\x00"},
		{1, "\x01\x01"},
		{5, "\x01\x05"},
		{255, "\x01\xff"},
		{256, "\x02\x01\x00"},
		{300, "\x02\x01\x2c"},
		{65535, "\x02\xff\xff"},
		{65536, "\x03\x01\x00\x00"},
		{1<<24 - 1, "\x03\xff\xff\xff"},
		{1 << 24, "\x04\x01\x00\x00\x00"},
		{1<<32 - 1, "\x04\xff\xff\xff\xff"},
		{1 << 32, "\x05\x01\x00\x00\x00\x00"},
		{1<<40 - 1, "\x05\xff\xff\xff\xff\xff"},
		{1 << 40, "\x06\x01\x00\x00\x00\x00\x00"},
		{1<<48 - 1, "\x06\xff\xff\xff\xff\xff\xff"},
		{1 << 48, "\x07\x01\x00\x00\x00\x00\x00\x00"},
		{1<<56 - 1, "\x07\xff\xff\xff\xff\xff\xff\xff"},
		{1 << 56, "\x08\x01\x00\x00\x00\x00\x00\x00\x00"},
		{0x0123456789abcdef, "\x08\x01\x23\x45\x67\x89\xab\xcd\xef"},
		{math.MaxUint64, "\x08\xff\xff\xff\xff\xff\xff\xff\xff"},
	} {
		if got := octet.Number(nil, x.x); string(got) != x.want {
			t.Errorf("%d: %x, not %x", x.x, got, x.want)
		}
		if got := octet.Number([]byte("begin"), x.x); string(got) != "begin"+x.want {
			t.Errorf("%d behind bytes: %x", x.x, got)
		}
	}
}

func TestBlockIsWritten(t *testing.T) {
	long := bytes.Repeat([]byte{7}, 300)
	for _, x := range []struct {
		b, p, want string
	}{
		{"", "", "\x00"},
		{"", "ab", "\x01\x02ab"},
		{"xy", "", "xy\x00"},
		{"xy", "ab", "xy\x01\x02ab"},
		{"", "\x00", "\x01\x01\x00"},
		{"z", string(long), "z\x02\x01\x2c" + string(long)},
	} {
		if got, e := octet.Block([]byte(x.b), []byte(x.p)); e != api.OK || string(got) != x.want {
			t.Errorf("%x %x: %x %d", x.b, x.p, got, e)
		}
	}
}

func TestBlockAtItsLimit(t *testing.T) {
	p := bytes.Repeat([]byte("0123456789abcdef"), api.MaxBlock/16+1)
	got, e := octet.Block([]byte("xy"), p[:api.MaxBlock])
	if e != api.OK || string(got) != "xy\x03\x10\x00\x00"+string(p[:api.MaxBlock]) {
		t.Error(len(got), e)
	}
	for _, size := range []int{api.MaxBlock + 1, api.MaxBlock + 16} {
		if got, e := octet.Block([]byte("xy"), p[:size]); e != api.ErrLong || len(got) != 0 {
			t.Error(size, len(got), e)
		}
	}
}

func TestSumIsTheChecksum(t *testing.T) {
	for _, x := range []struct {
		b    string
		want uint32
	}{
		{"123456789", 0xcbf43926},
		{"", 0},
		{"a", 0xe8b7be43},
		{"\x00", 0xd202ef8d},
		{"\xff", 0xff000000},
		{"The quick brown fox jumps over the lazy dog", 0x414fa339},
	} {
		if got := octet.Sum([]byte(x.b)); got != x.want {
			t.Errorf("%q: %08x", x.b, got)
		}
	}
	if octet.Sum() != 0 || octet.Sum(nil, []byte{}, nil) != 0 {
		t.Error("of nothing")
	}
}

// stepwise is the chapter's sentence about the checksum, bit by bit.
func stepwise(b []byte) uint32 {
	sum := uint32(0xffffffff)
	for _, c := range b {
		sum ^= uint32(c)
		for range 8 {
			out := sum & 1
			sum >>= 1
			if out == 1 {
				sum ^= 0xedb88320
			}
		}
	}
	return ^sum
}

func TestSumOfEachByteAndOfMany(t *testing.T) {
	random := rand.New(rand.NewSource(1))
	var list [][]byte
	for c := range 256 {
		list = append(list, []byte{byte(c)}, []byte{byte(c), 0}, []byte{0, byte(c)})
	}
	for size := range 200 {
		b := make([]byte, size)
		random.Read(b)
		list = append(list, b)
	}
	for _, b := range list {
		if got := octet.Sum(b); got != stepwise(b) || got != crc32.ChecksumIEEE(b) {
			t.Fatalf("%x: %08x", b, got)
		}
	}
}

func TestSumByWords(t *testing.T) {
	for i := range 256 {
		// The complement is made up for: the steps begin at ffffffff and their result is inverted.
		want := ^stepwise([]byte{byte(i) ^ 0xff}) ^ 0x00ffffff
		if got := octet.Word(byte(i)); got != want {
			t.Errorf("%02x: %08x, not %08x", i, got, want)
		}
	}
	b := []byte("bytes whose steps are taken from words, a byte at once \x00\x7f\x80\xff")
	sum := ^uint32(0)
	for i, c := range b {
		sum = sum>>8 ^ octet.Word(byte(sum)^c)
		if ^sum != octet.Sum(b[:i+1]) {
			t.Fatal(i, sum)
		}
	}
}

func TestSumOfPieces(t *testing.T) {
	b := []byte("bytes that come in pieces")
	want := octet.Sum(b)
	for i := range len(b) + 1 {
		for j := i; j <= len(b); j++ {
			if got := octet.Sum(b[:i], nil, b[i:j], b[j:]); got != want {
				t.Fatal(i, j, got)
			}
		}
	}
	if octet.Sum([]byte("ab"), []byte("c")) == octet.Sum([]byte("c"), []byte("ab")) {
		t.Error("the order does not count")
	}
}

// Rules 3 and 4

func TestWritingChangesNoArgument(t *testing.T) {
	b, allB := spare("begin")
	p, allP := spare("piece")
	wantB, wantP := bytes.Clone(allB), bytes.Clone(allP)
	number := octet.Number(b, 300)
	block, e := octet.Block(b, p)
	octet.Block(b, make([]byte, api.MaxBlock+1))
	octet.Sum(b, p)
	if e != api.OK || !bytes.Equal(allB, wantB) || !bytes.Equal(allP, wantP) {
		t.Fatal("an argument was written", e)
	}
	fill(number, 1)
	fill(block, 2)
	if !bytes.Equal(allB, wantB) || !bytes.Equal(allP, wantP) {
		t.Error("a result is not new memory")
	}
}

func TestWrittenResultsAreNewMemory(t *testing.T) {
	b, allB := spare("begin")
	p, allP := spare("piece")
	first, second := octet.Number(b, 300), octet.Number(b, 300)
	one, _ := octet.Block(b, p)
	two, _ := octet.Block(b, p)
	fill(allB, 3)
	fill(allP, 4)
	fill(first, 5)
	fill(one, 6)
	if string(second) != "begin\x02\x01\x2c" || string(two) != "begin\x01\x05piece" {
		t.Errorf("%q %q", second, two)
	}
	if cap(second) > len(second) && bytes.Contains(second[:cap(second)], []byte{0xee}) {
		t.Error("spare capacity was returned")
	}
}

func TestNilAndEmptyAreTheSameToWriters(t *testing.T) {
	for _, b := range [][]byte{nil, {}, make([]byte, 0, 9)} {
		if string(octet.Number(b, 300)) != "\x02\x01\x2c" {
			t.Error("number")
		}
		for _, p := range [][]byte{nil, {}, make([]byte, 0, 9)} {
			if got, e := octet.Block(b, p); string(got) != "\x00" || e != api.OK {
				t.Error("block", got, e)
			}
		}
	}
	if octet.Sum(nil) != octet.Sum([]byte{}) {
		t.Error("sum")
	}
}

// P1.3

func TestShortDifferencesChangeTheSum(t *testing.T) {
	random := rand.New(rand.NewSource(2))
	message := make([]byte, 48)
	random.Read(message)
	want := octet.Sum(message)
	for at := 0; at <= 8*len(message)-32; at++ {
		for n := range 320 {
			pattern := random.Uint32() | 1
			switch {
			case n < 32:
				pattern = 1 << n
			case n < 64:
				pattern = 1<<31 | 1<<(n-32)
			case n == 64:
				pattern = math.MaxUint32
			}
			if octet.Sum(turn(message, at, pattern)) == want {
				t.Fatalf("bits %08x at %d do not change the checksum", pattern, at)
			}
		}
	}
}

// turn inverts the bits of pattern from the bit at on, of each byte the lowest bit first.
func turn(b []byte, at int, pattern uint32) []byte {
	b = bytes.Clone(b)
	for i := range 32 {
		if pattern>>i&1 == 1 {
			b[(at+i)/8] ^= 1 << ((at + i) % 8)
		}
	}
	return b
}
