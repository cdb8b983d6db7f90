package hkdf_test

import (
	"bytes"
	"crypto/sha256"
	"encoding/binary"
	"encoding/hex"
	"math"
	"math/rand"
	"strings"
	"testing"

	"drawbridge/hkdf"
)

// some are n bytes, the same ones each time, any 251 of which in a row differ.
func some(n int) []byte {
	b := make([]byte, n)
	for i := range b {
		b[i] = byte(i % 251)
	}
	return b
}

// unhex are the bytes of text.
func unhex(t *testing.T, text string) []byte {
	t.Helper()
	b, err := hex.DecodeString(text)
	if err != nil {
		t.Fatal(err)
	}
	return b
}

// pieces are the bytes of b as a list of pieces that end where r says, some of them empty or nil.
func pieces(r *rand.Rand, b []byte) [][]byte {
	var list [][]byte
	for len(b) > 0 || r.Intn(3) > 0 {
		switch r.Intn(6) {
		case 0:
			list = append(list, nil)
		case 1:
			list = append(list, []byte{})
		default:
			n := min(len(b), r.Intn([]int{3, 20, 70, 200}[r.Intn(4)]))
			list = append(list, b[:n:n])
			b = b[n:]
		}
	}
	return list
}

// P5.1

func TestSumOfKnownBytes(t *testing.T) {
	for _, x := range []struct{ text, want string }{
		// FIPS 180-4's examples.
		{"", "e3b0c44298fc1c149afbf4c8996fb92427ae41e4649b934ca495991b7852b855"},
		{"abc", "ba7816bf8f01cfea414140de5dae2223b00361a396177a9cb410ff61f20015ad"},
		{"abcdbcdecdefdefgefghfghighijhijkijkljklmklmnlmnomnopnopq", "248d6a61d20638b8e5c026930c3e6039a33ce45964ff2167f6ecedd419db06c1"},
		{"abcdefghbcdefghicdefghijdefghijkefghijklfghijklmghijklmnhijklmnoijklmnopjklmnopqklmnopqrlmnopqrsmnopqrstnopqrstu",
			"cf5b16a778af8380036ce59e7b0492370b249b11e8f07a51afac45037afee9d1"},
		{strings.Repeat("a", 1000000), "cdc76e5c9914fb9281a1c7e284d73e67f1809a48a497200e046d39ccc7112cd0"},
	} {
		if got := hkdf.Sum([]byte(x.text)); !bytes.Equal(got[:], unhex(t, x.want)) {
			t.Errorf("%d bytes: %x", len(x.text), got)
		}
	}
}

// Of another implementation.
func TestSumOfKnownLengths(t *testing.T) {
	for _, x := range []struct {
		n    int
		want string
	}{
		{1, "6e340b9cffb37a989ca544e6bb780a2c78901d3fb33738768511a30617afa01d"},
		{31, "4f23c2ca8c5c962e50cd31e221bfb6d0adca19111dca8e0c62598ff146dd19c4"},
		{32, "630dcd2966c4336691125448bbb25b4ff412a49c732db2c8abc1b8581bd710dd"},
		{54, "675f28acc0b90a72d1c3a570fe83ac565555db358cf01826dc8eefb2bf7ca0f3"},
		{55, "463eb28e72f82e0a96c0a4cc53690c571281131f672aa229e0d45ae59b598b59"},
		{56, "da2ae4d6b36748f2a318f23e7ab1dfdf45acdc9d049bd80e59de82a60895f562"},
		{57, "2fe741af801cc238602ac0ec6a7b0c3a8a87c7fc7d7f02a3fe03d1c12eac4d8f"},
		{63, "29af2686fd53374a36b0846694cc342177e428d1647515f078784d69cdb9e488"},
		{64, "fdeab9acf3710362bd2658cdc9a29e8f9c757fcf9811603a8c447cd1d9151108"},
		{65, "4bfd2c8b6f1eec7a2afeb48b934ee4b2694182027e6d0fc075074f2fabb31781"},
		{119, "da18797ed7c3a777f0847f429724a2d8cd5138e6ed2895c3fa1a6d39d18f7ec6"},
		{120, "f52b23db1fbb6ded89ef42a23ce0c8922c45f25c50b568a93bf1c075420bbb7c"},
		{127, "92ca0fa6651ee2f97b884b7246a562fa71250fedefe5ebf270d31c546bfea976"},
		{128, "471fb943aa23c511f6f72f8d1652d9c880cfa392ad80503120547703e56a2be5"},
		{129, "5099c6a56203f9687f7d33f4bfdf576d31dc91f6b695ecea38b2770c87631135"},
		{1000, "4e4c294b331f7a2099a379bec34b9f9fc03dc46ab465d998f4d683da53487e6d"},
		{65536, "4b640d85ab3ba30fd02c9fc9db4a8928f416322ad27022ea58a65aaee68a4df2"},
		{1<<20 + 7, "9e037498ddbb955fba0752812031c14ba299a4875cb400e8b8c1d77b3962c90e"},
	} {
		if got := hkdf.Sum(some(x.n)); !bytes.Equal(got[:], unhex(t, x.want)) {
			t.Errorf("%d bytes: %x", x.n, got)
		}
	}
}

// The digest is that of all sums of another implementation, one after the other.
func TestSumOfEachLength(t *testing.T) {
	var all []byte
	for n := range 400 {
		got := hkdf.Sum(some(n))
		if want := sha256.Sum256(some(n)); got != want {
			t.Fatalf("%d bytes: %x, not %x", n, got, want)
		}
		all = append(all, got[:]...)
	}
	if got := hkdf.Sum(all); !bytes.Equal(got[:], unhex(t, "6d87fe26fa07c1cc0e931604b72482d0ace14cd64487e1837d9b4d79bac5d966")) {
		t.Errorf("%x", got)
	}
}

// A single bit in each place, so that one which is not looked at, or looked at elsewhere, is seen.
func TestSumOfEachBit(t *testing.T) {
	for _, n := range []int{1, 55, 64, 100, 130} {
		for bit := range 8 * n {
			b := make([]byte, n)
			b[bit/8] = 0x80 >> (bit % 8)
			if got, want := hkdf.Sum(b), sha256.Sum256(b); got != want {
				t.Fatalf("bit %d of %d bytes: %x, not %x", bit, n, got, want)
			}
		}
	}
}

func TestSumOfAnyBytes(t *testing.T) {
	r := rand.New(rand.NewSource(1))
	for range 5000 {
		b := make([]byte, r.Intn(300))
		r.Read(b)
		if got, want := hkdf.Sum(b), sha256.Sum256(b); got != want {
			t.Fatalf("%x: %x, not %x", b, got, want)
		}
	}
	for _, c := range []byte{0x00, 0xff, 0x80, 0x7f} {
		for n := range 200 {
			b := bytes.Repeat([]byte{c}, n)
			if got, want := hkdf.Sum(b), sha256.Sum256(b); got != want {
				t.Fatalf("%d times %02x: %x, not %x", n, c, got, want)
			}
		}
	}
}

// pad is the chapter's sentence about what follows n bytes.
func pad(n uint64) []byte {
	b := []byte{0x80}
	for (n%64+uint64(len(b))+8)%64 != 0 {
		b = append(b, 0)
	}
	return binary.BigEndian.AppendUint64(b, n*8)
}

func TestPad(t *testing.T) {
	for _, x := range []struct {
		n    int64
		want string
	}{
		{0, "80" + strings.Repeat("00", 63)},
		{1, "80" + strings.Repeat("00", 61) + "08"},
		{31, "80" + strings.Repeat("00", 31) + "f8"},
		{32, "80" + strings.Repeat("00", 29) + "0100"},
		{54, "8000" + "00000000000001b0"},
		{55, "80" + "00000000000001b8"},
		{56, "80" + strings.Repeat("00", 63) + "00000000000001c0"},
		{63, "80" + strings.Repeat("00", 56) + "00000000000001f8"},
		{64, "80" + strings.Repeat("00", 55) + "0000000000000200"},
		{1 << 60, "80" + strings.Repeat("00", 55) + "8000000000000000"},
		{1<<60 - 1, "80" + strings.Repeat("00", 56) + "7ffffffffffffff8"},
		{0x0123456789abcde, "80" + strings.Repeat("00", 25) + "0091a2b3c4d5e6f0"},
	} {
		if got := hkdf.Pad(x.n); !bytes.Equal(got, unhex(t, x.want)) {
			t.Errorf("%d: %x", x.n, got)
		}
	}
}

func TestPadOfEachLength(t *testing.T) {
	check := func(n int64) {
		t.Helper()
		if got, want := hkdf.Pad(n), pad(uint64(n)); !bytes.Equal(got, want) {
			t.Fatalf("%d: %x, not %x", n, got, want)
		}
	}
	for n := range int64(1000) {
		check(n)
	}
	for shift := range 60 {
		for near := int64(-70); near <= 70; near++ {
			if n := int64(1)<<shift + near; n >= 0 {
				check(n)
			}
		}
	}
	for n := int64(1<<60) - 70; n <= 1<<60; n++ {
		check(n)
	}
}

func TestPadBelow0(t *testing.T) {
	for _, n := range []int64{-1, -2, -8, -9, -55, -56, -63, -64, -65, -1000, math.MinInt32, math.MinInt64 + 1, math.MinInt64} {
		if got := hkdf.Pad(n); !bytes.Equal(got, pad(0)) {
			t.Errorf("%d: %x", n, got)
		}
	}
}

// Nothing is promised of these but that the call returns.
func TestPadAboveItsBoundReturns(t *testing.T) {
	for _, n := range []int64{1<<60 + 1, 1 << 61, 1 << 62, math.MaxInt64 - 1, math.MaxInt64} {
		hkdf.Pad(n)
	}
}

// The bytes with what follows them are whole blocks, so that those of another length never are the same blocks.
func TestPaddedBytesDiffer(t *testing.T) {
	seen := map[string]int{}
	for n := range 300 {
		b := string(append(make([]byte, n), hkdf.Pad(int64(n))...))
		if other, ok := seen[b]; ok || len(b)%64 != 0 {
			t.Errorf("%d and %d bytes: %d", n, other, len(b))
		}
		seen[b] = n
	}
}

// P5.3

func TestSumOfTwoPieces(t *testing.T) {
	for _, n := range []int{0, 1, 55, 56, 63, 64, 65, 128, 140} {
		b := some(n)
		want := sha256.Sum256(b)
		for at := range n + 1 {
			for _, list := range [][][]byte{
				{b[:at], b[at:]}, {nil, b[:at], nil, b[at:], nil}, {{}, {}, b[:at], {}, {}, b[at:], {}},
			} {
				if got := hkdf.Sum(list...); got != want {
					t.Fatalf("%d bytes at %d, %d pieces: %x, not %x", n, at, len(list), got, want)
				}
			}
		}
	}
}

func TestSumOfEqualPieces(t *testing.T) {
	b := some(333)
	want := sha256.Sum256(b)
	for size := 1; size <= 130; size++ {
		var list [][]byte
		for at := 0; at < len(b); at += size {
			list = append(list, b[at:min(at+size, len(b))])
		}
		if got := hkdf.Sum(list...); got != want {
			t.Fatalf("pieces of %d bytes: %x, not %x", size, got, want)
		}
	}
}

func TestSumOfAnyPieces(t *testing.T) {
	r := rand.New(rand.NewSource(2))
	for range 3000 {
		b := make([]byte, r.Intn(400))
		r.Read(b)
		list := pieces(r, b)
		if got, want := hkdf.Sum(list...), sha256.Sum256(b); got != want {
			t.Fatalf("%x of %x: %x, not %x", list, b, got, want)
		}
	}
}

func TestSumOfNoBytes(t *testing.T) {
	want := sha256.Sum256(nil)
	for _, list := range [][][]byte{nil, {}, {nil}, {{}}, {nil, {}, nil, make([]byte, 0, 9)}, make([][]byte, 1000), twice(some(70)[:0])} {
		if got := hkdf.Sum(list...); got != want {
			t.Errorf("%d pieces: %x", len(list), got)
		}
	}
	if got := hkdf.Sum(); got != want {
		t.Errorf("%x", got)
	}
}

// twice is a list of b twice, with spare capacity that has bytes.
func twice(b []byte) [][]byte {
	return [][]byte{b, b, some(5), some(6)}[:2]
}

func TestSumOfManyPieces(t *testing.T) {
	b := some(1 << 18)
	list := make([][]byte, 0, 2*len(b))
	for i := range b {
		list = append(list, nil, b[i:i+1])
	}
	if got, want := hkdf.Sum(list...), sha256.Sum256(b); got != want {
		t.Errorf("%x, not %x", got, want)
	}
}
