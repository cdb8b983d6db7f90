package octet_test

import (
	"bytes"
	"math"
	"math/rand"
	"testing"

	"drawbridge/api"
	"drawbridge/octet"
)

// silent tells that every method of r answers nothing and reads nothing, and that its error stays.
func silent(t *testing.T, r *octet.Reader, want api.Errno, left int) {
	t.Helper()
	for range 2 {
		if x := r.Number(); x != 0 {
			t.Error("Number", x)
		}
		if x := r.Upto(math.MaxUint64); x != 0 {
			t.Error("Upto", x)
		}
		if x := r.Upto(0); x != 0 {
			t.Error("Upto 0", x)
		}
		if p := r.Block(); len(p) != 0 {
			t.Error("Block", p)
		}
		for _, n := range []int{math.MinInt, -1, 0, 1, 2, math.MaxInt} {
			if p := r.Fixed(n); len(p) != 0 {
				t.Error("Fixed", n, p)
			}
		}
		if r.Err() != want || r.End() != want || r.Err() != want {
			t.Error("Err", r.Err(), "End", r.End(), "not", want)
		}
		if r.Left() != left {
			t.Error("Left", r.Left(), "not", left)
		}
	}
}

// P1.2

func TestNumberIsRead(t *testing.T) {
	for _, x := range edges() {
		r := octet.New(append(octet.Number(nil, x), 9, 9))
		if got := r.Number(); got != x || r.Err() != api.OK || r.Left() != 2 {
			t.Error(x, got, r.Err(), r.Left())
		}
	}
}

func TestNumberThatIsNone(t *testing.T) {
	for _, x := range []struct {
		b string
		e api.Errno
	}{
		{"", api.ErrMore},
		{"\x01\x00", api.ErrBad},
		{"\x02\x01", api.ErrMore},
		{"\x09", api.ErrBad},
		{"\x02\x00", api.ErrMore}, // bytes are missing, and the highest is 0
		{"\x02\x00\x01", api.ErrBad},
		{"\x08\x00\xff\xff\xff\xff\xff\xff\xff", api.ErrBad},
		{"\x09\x01\x02\x03\x04\x05\x06\x07\x08\x09", api.ErrBad},
		{"\x80", api.ErrBad},
		{"\xff", api.ErrBad},
	} {
		for _, read := range []func(r *octet.Reader) bool{
			func(r *octet.Reader) bool { return r.Number() == 0 },
			func(r *octet.Reader) bool { return r.Upto(0) == 0 },
			func(r *octet.Reader) bool { return r.Upto(math.MaxUint64) == 0 },
			func(r *octet.Reader) bool { return len(r.Block()) == 0 },
		} {
			r := octet.New([]byte(x.b))
			if !read(r) || r.Err() != x.e {
				t.Errorf("%x: %d", x.b, r.Err())
			}
			silent(t, r, x.e, r.Left())
		}
	}
}

func TestNumberOfEachLength(t *testing.T) {
	for size := 1; size <= 8; size++ {
		whole := append([]byte{byte(size)}, bytes.Repeat([]byte{1}, size)...)
		for n := range size {
			for _, high := range []byte{0, 1} {
				b := bytes.Clone(whole[:1+n])
				if n > 0 {
					b[1] = high
				}
				if r := octet.New(b); r.Number() != 0 || r.Err() != api.ErrMore {
					t.Errorf("%x: %d", b, r.Err())
				}
			}
		}
		b := bytes.Clone(whole)
		b[1] = 0
		if r := octet.New(b); r.Number() != 0 || r.Err() != api.ErrBad {
			t.Errorf("%x: %d", b, r.Err())
		}
		if r := octet.New(whole); r.Number() == 0 || r.End() != api.OK {
			t.Errorf("%x: %d", whole, r.Err())
		}
	}
}

func TestFirstByteAboveEight(t *testing.T) {
	for first := 9; first <= 255; first++ {
		for _, size := range []int{0, 1, 8, first, first + 1} {
			b := append([]byte{byte(first)}, bytes.Repeat([]byte{1}, size)...)
			if r := octet.New(b); r.Number() != 0 || r.Err() != api.ErrBad {
				t.Fatal(first, size, r.Err())
			}
		}
	}
}

func TestUptoAtItsBound(t *testing.T) {
	for _, most := range edges() {
		r := octet.New(append(octet.Number(nil, most), 7))
		if got := r.Upto(most); got != most || r.Err() != api.OK || r.Left() != 1 {
			t.Error(most, got, r.Err())
		}
		if most == math.MaxUint64 {
			continue
		}
		r = octet.New(append(octet.Number(nil, most+1), 7))
		if got := r.Upto(most); got != 0 || r.Err() != api.ErrLong {
			t.Error(most, got, r.Err())
		}
		silent(t, r, api.ErrLong, 1)
	}
	if r := octet.New([]byte{1, 5, 7}); r.Upto(4) != 0 || r.Err() != api.ErrLong || r.Left() != 1 {
		t.Error(r.Err(), r.Left())
	}
	if r := octet.New([]byte{1, 5}); r.Upto(math.MaxUint64) != 5 || r.End() != api.OK {
		t.Error(r.Err())
	}
}

func TestBlockIsRead(t *testing.T) {
	for _, size := range []int{0, 1, 2, 255, 256, 300, 65536, api.MaxBlock - 1, api.MaxBlock} {
		p := bytes.Repeat([]byte{8, 1, 2}, size/3+1)[:size]
		b, e := octet.Block([]byte{3}, p)
		if e != api.OK {
			t.Fatal(size, e)
		}
		r := octet.New(append(b, 4))
		if string(r.Fixed(1)) != "\x03" || !bytes.Equal(r.Block(), p) || r.Err() != api.OK || r.Left() != 1 {
			t.Error(size, r.Err(), r.Left())
		}
		if size == 0 {
			continue
		}
		r = octet.New(b[1 : len(b)-1])
		if len(r.Block()) != 0 || r.Err() != api.ErrMore {
			t.Error(size, "with a byte missing:", r.Err())
		}
		silent(t, r, api.ErrMore, r.Left())
	}
}

func TestBlockThatIsTooLong(t *testing.T) {
	room := make([]byte, api.MaxBlock+2)
	for _, size := range []uint64{api.MaxBlock + 1, 1 << 31, 1 << 32, 1 << 63, math.MaxUint64} {
		for _, rest := range [][]byte{nil, room[:1], room[:api.MaxBlock], room} {
			r := octet.New(append(octet.Number(nil, size), rest...))
			if len(r.Block()) != 0 || r.Err() != api.ErrLong {
				t.Error(size, len(rest), r.Err())
			}
			silent(t, r, api.ErrLong, len(rest))
		}
	}
}

func TestFixedIsRead(t *testing.T) {
	r := octet.New([]byte("abcdef"))
	for _, x := range []struct {
		n    int
		want string
		left int
	}{{0, "", 6}, {-1, "", 6}, {math.MinInt, "", 6}, {1, "a", 5}, {3, "bcd", 2}, {2, "ef", 0}, {0, "", 0}, {-5, "", 0}} {
		if got := r.Fixed(x.n); string(got) != x.want || r.Left() != x.left || r.Err() != api.OK {
			t.Errorf("%d: %q %d %d", x.n, got, r.Left(), r.Err())
		}
	}
	if r.End() != api.OK {
		t.Error(r.End())
	}
	for _, n := range []int{3, 4, 1 << 40, math.MaxInt} {
		r := octet.New([]byte("ab"))
		if len(r.Fixed(n)) != 0 || r.Err() != api.ErrMore {
			t.Error(n, r.Err())
		}
		silent(t, r, api.ErrMore, 2)
		// What is left behind bytes that were read counts, not how many there were.
		r = octet.New([]byte("abc"))
		if string(r.Fixed(1)) != "a" || len(r.Fixed(n)) != 0 || r.Err() != api.ErrMore {
			t.Error(n, r.Err())
		}
		silent(t, r, api.ErrMore, 2)
	}
	r = octet.New(nil)
	if len(r.Fixed(1)) != 0 || r.Err() != api.ErrMore {
		t.Error("of nothing", r.Err())
	}
}

func TestLeftCountsDown(t *testing.T) {
	b, _ := octet.Block(octet.Number(octet.Number([]byte("xyz"), 0), 300), []byte("ab"))
	r := octet.New(b)
	var got []int
	got = append(got, r.Left())
	r.Fixed(3)
	got = append(got, r.Left())
	r.Number()
	got = append(got, r.Left())
	r.Upto(300)
	got = append(got, r.Left())
	r.Block()
	got = append(got, r.Left())
	for i, want := range []int{11, 8, 7, 4, 0} {
		if got[i] != want {
			t.Error(i, got[i], want)
		}
	}
	if r.End() != api.OK {
		t.Error(r.End())
	}
}

func TestEndWithBytesLeft(t *testing.T) {
	r := octet.New([]byte{1, 5})
	if r.Err() != api.OK || r.End() != api.ErrBad || r.Err() != api.ErrBad {
		t.Error(r.Err(), r.End())
	}
	silent(t, r, api.ErrBad, 2)
	r = octet.New([]byte{0, 0})
	if r.Number() != 0 || r.End() != api.ErrBad {
		t.Error("one of two", r.End())
	}
	silent(t, r, api.ErrBad, 1)
}

func TestEndWithNothingLeft(t *testing.T) {
	for _, b := range [][]byte{nil, {}} {
		r := octet.New(b)
		if r.Err() != api.OK || r.Left() != 0 || r.End() != api.OK || r.End() != api.OK {
			t.Error(r.Err(), r.Left())
		}
		// A reader at its end is not one that is over: the next that is read is missing.
		if r.Number() != 0 || r.End() != api.ErrMore {
			t.Error(r.End())
		}
	}
}

func TestFirstErrorStays(t *testing.T) {
	for _, x := range []struct {
		b    string
		fail func(r *octet.Reader)
		want api.Errno
		left int
	}{
		{"\x01\x05\x09\x01", func(r *octet.Reader) { r.Upto(4) }, api.ErrLong, 2},
		{"\x00\x00", func(r *octet.Reader) { r.Fixed(3) }, api.ErrMore, 2},
		{"\x00\x00", func(r *octet.Reader) { r.End() }, api.ErrBad, 2},
		{"\x01\x03ab", func(r *octet.Reader) { r.Block() }, api.ErrMore, 2},
		{"\x03\x10\x00\x01ab", func(r *octet.Reader) { r.Block() }, api.ErrLong, 2},
	} {
		r := octet.New([]byte(x.b))
		x.fail(r)
		silent(t, r, x.want, x.left)
	}
}

// Rule 7

func TestReaderThatNewDidNotReturn(t *testing.T) {
	var none *octet.Reader
	silent(t, none, api.ErrNil, 0)
	silent(t, &octet.Reader{}, api.ErrNil, 0)
	silent(t, new(octet.Reader), api.ErrNil, 0)
	for _, r := range []*octet.Reader{nil, {}} {
		if r.End() != api.ErrNil {
			t.Error(r.End())
		}
	}
}

// Rules 3 and 4

func TestReaderKeepsNoArgument(t *testing.T) {
	b, all := spare("\x01\x05\x01\x02abcd")
	want := bytes.Clone(all)
	r := octet.New(b)
	fill(all, 9)
	if r.Number() != 5 || string(r.Block()) != "ab" || string(r.Fixed(2)) != "cd" || r.End() != api.OK {
		t.Error(r.Err())
	}
	copy(all, want)
	r = octet.New(b)
	r.Number()
	fill(r.Block(), 1)
	fill(r.Fixed(2), 2)
	if !bytes.Equal(all, want) {
		t.Error("the argument was written")
	}
	if len(r.Fixed(1)) != 0 || r.Err() != api.ErrMore {
		t.Error("spare capacity was read", r.Err())
	}
}

func TestReadResultsAreNewMemory(t *testing.T) {
	b, _ := octet.Block([]byte("abcd"), []byte("block"))
	b, _ = octet.Block(b, []byte("other"))
	r := octet.New(append(b, "tail"...))
	one, two, three := r.Fixed(2), r.Fixed(2), r.Block()
	fill(one, 1)
	if string(two) != "cd" {
		t.Errorf("%q", two)
	}
	fill(two, 2)
	if string(three) != "block" {
		t.Errorf("%q", three)
	}
	fill(three, 3)
	four, five := r.Block(), r.Fixed(4)
	if string(four) != "other" || string(five) != "tail" || r.End() != api.OK {
		t.Errorf("%q %q %d", four, five, r.Err())
	}
	fill(four, 4)
	if string(five) != "tail" {
		t.Errorf("%q", five)
	}
}

func TestReadersAreApart(t *testing.T) {
	b := []byte{1, 5, 1, 6}
	one, two := octet.New(b), octet.New(b)
	if one.Number() != 5 || one.Upto(5) != 0 || one.Err() != api.ErrLong {
		t.Error(one.Err())
	}
	if two.Number() != 5 || two.Number() != 6 || two.End() != api.OK {
		t.Error(two.Err())
	}
}

// P1.3

func TestWhatWasWrittenIsReadBack(t *testing.T) {
	random := rand.New(rand.NewSource(3))
	for range 500 {
		var b []byte
		var numbers []uint64
		var blocks [][]byte
		for range random.Intn(20) {
			x := random.Uint64() >> random.Intn(65)
			p := make([]byte, random.Intn(400))
			random.Read(p)
			numbers, blocks = append(numbers, x), append(blocks, p)
			b, _ = octet.Block(octet.Number(b, x), p)
		}
		r := octet.New(b)
		for i := range numbers {
			if x, p := r.Number(), r.Block(); x != numbers[i] || !bytes.Equal(p, blocks[i]) {
				t.Fatal(i, x, numbers[i])
			}
		}
		if r.End() != api.OK {
			t.Fatal(r.End())
		}
	}
}

// short visits all bytes of at most two, and of three whose first is 2.
func short(visit func(b []byte)) {
	visit(nil)
	for i := range 1 << 16 {
		if i < 256 {
			visit([]byte{byte(i)})
		}
		visit([]byte{byte(i >> 8), byte(i)})
		visit([]byte{2, byte(i >> 8), byte(i)})
	}
}

func TestNoOtherBytesAreReadAsANumber(t *testing.T) {
	short(func(b []byte) {
		r := octet.New(b)
		x := r.Number()
		if r.Err() != api.OK {
			return
		}
		if used := b[:len(b)-r.Left()]; !bytes.Equal(used, octet.Number(nil, x)) {
			t.Fatalf("%x is read as %d", used, x)
		}
	})
}

func TestNoOtherBytesAreReadAsABlock(t *testing.T) {
	short(func(b []byte) {
		b = append(bytes.Clone(b), "xyz"...)
		r := octet.New(b)
		p := r.Block()
		if r.Err() != api.OK {
			return
		}
		want, e := octet.Block(nil, p)
		if used := b[:len(b)-r.Left()]; e != api.OK || !bytes.Equal(used, want) {
			t.Fatalf("%x is read as %x", used, p)
		}
	})
}

// T6

func FuzzReader(f *testing.F) {
	f.Add([]byte{}, []byte{})
	f.Add([]byte{1, 5, 1, 2, 'a', 'b'}, []byte{0, 2})
	f.Add([]byte{1, 5, 7}, []byte{5})
	f.Add([]byte{9, 0, 8, 1, 2, 3}, []byte{3, 1, 4})
	f.Fuzz(func(t *testing.T, b, calls []byte) {
		r := octet.New(b)
		for _, c := range calls {
			before, left := r.Err(), r.Left()
			n := int(int8(c)) >> 3
			switch c % 5 {
			case 0:
				r.Number()
			case 1:
				r.Upto(uint64(c))
			case 2:
				r.Block()
			case 3:
				r.Fixed(n)
			case 4:
				r.End()
			}
			if before != api.OK && (r.Err() != before || r.Left() != left) {
				t.Fatal(before, r.Err(), left, r.Left())
			}
			if r.Left() > left || r.Left() < 0 {
				t.Fatal(left, r.Left())
			}
		}
	})
}
