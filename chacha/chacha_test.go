package chacha_test

import (
	"bytes"
	"encoding/binary"
	"encoding/hex"
	"math"
	"math/bits"
	"math/rand"
	"testing"

	"drawbridge/api"
	"drawbridge/chacha"
)

const last = math.MaxUint32 // the last counter

// rising is the key 00 01 .. 1f of the chapter's example.
func rising() (key [32]byte) {
	for i := range key {
		key[i] = byte(i)
	}
	return key
}

// unlike is a key whose bytes all differ, and none is at the place of its own number.
func unlike() (key [32]byte) {
	for i := range key {
		key[i] = byte(i*37 + 11)
	}
	return key
}

var (
	exampleNonce = [12]byte{3: 9, 7: 0x4a}
	unlikeNonce  = [12]byte{0xa1, 0xb2, 0xc3, 0xd4, 0xe5, 0xf6, 0x07, 0x18, 0x29, 0x3a, 0x4b, 0x5c}
)

// unhex are the bytes of text, which may have spaces.
func unhex(t *testing.T, text string) []byte {
	t.Helper()
	b, err := hex.DecodeString(string(bytes.ReplaceAll([]byte(text), []byte(" "), nil)))
	if err != nil {
		t.Fatal(err)
	}
	return b
}

// some are n bytes, the same ones each time, any 251 of which in a row differ.
func some(n int) []byte {
	b := make([]byte, n)
	for i := range b {
		b[i] = byte(i % 251)
	}
	return b
}

// words are edges of words: sums of two may pass 2^32, and bits move through each of the rotations.
var words = []uint32{0, 1, 0x7fffffff, 0x80000000, 0xfffffffe, 0xffffffff, 0x01020304, 0x9b8d6f43, 0x0000ffff, 0xffff0000}

// quarter is the chapter's sentence about a quarter round, on words of 64 bits that are cut.
func quarter(s *[16]uint32, a, b, c, d int) {
	for _, n := range [2][2]int{{16, 12}, {8, 7}} {
		s[a] = uint32((uint64(s[a]) + uint64(s[b])) % (1 << 32))
		s[d] = bits.RotateLeft32(s[d]^s[a], n[0])
		s[c] = uint32((uint64(s[c]) + uint64(s[d])) % (1 << 32))
		s[b] = bits.RotateLeft32(s[b]^s[c], n[1])
	}
}

// rows are the words of the eight quarter rounds, as the chapter lists them.
var rows = [8][4]int{
	{0, 4, 8, 12}, {1, 5, 9, 13}, {2, 6, 10, 14}, {3, 7, 11, 15},
	{0, 5, 10, 15}, {1, 6, 11, 12}, {2, 7, 8, 13}, {3, 4, 9, 14},
}

func round(s [16]uint32) [16]uint32 {
	for _, w := range rows {
		quarter(&s, w[0], w[1], w[2], w[3])
	}
	return s
}

func state(key [32]byte, counter uint32, nonce [12]byte) (s [16]uint32) {
	var all []byte
	all = append(all, "expand 32-byte k"...) // the four constant words
	all = append(all, key[:]...)
	all = binary.LittleEndian.AppendUint32(all, counter)
	all = append(all, nonce[:]...)
	for i := range s {
		s[i] = binary.LittleEndian.Uint32(all[4*i:])
	}
	return s
}

func block(key [32]byte, counter uint32, nonce [12]byte) []byte {
	s := state(key, counter, nonce)
	for range 10 {
		s = round(s)
	}
	var b []byte
	for i, w := range state(key, counter, nonce) {
		b = binary.LittleEndian.AppendUint32(b, s[i]+w)
	}
	return b
}

// xor is b with the key stream, byte by byte.
func xor(key [32]byte, counter uint32, nonce [12]byte, b []byte) []byte {
	var out []byte
	for i, c := range b {
		out = append(out, c^block(key, counter+uint32(i/64), nonce)[i%64])
	}
	return out
}

// random are arguments that are the same in each run.
func random(r *rand.Rand) (key [32]byte, counter uint32, nonce [12]byte) {
	r.Read(key[:])
	r.Read(nonce[:])
	return key, r.Uint32(), nonce
}

func randomState(r *rand.Rand) (s [16]uint32) {
	for i := range s {
		s[i] = r.Uint32()
		if r.Intn(4) == 0 {
			s[i] = words[r.Intn(len(words))]
		}
	}
	return s
}

// P2.1

func TestQuarter(t *testing.T) {
	for _, x := range []struct{ in, out [4]uint32 }{
		{[4]uint32{0x11111111, 0x01020304, 0x9b8d6f43, 0x01234567}, [4]uint32{0xea2a92f4, 0xcb1cf8ce, 0x4581472e, 0x5881c4bb}},
		{[4]uint32{0x516461b1, 0x2a5f714c, 0x53372767, 0x3d631689}, [4]uint32{0xbdb886dc, 0xcfacafd2, 0xe46bea80, 0xccc07c79}},
		{[4]uint32{}, [4]uint32{}},
		// By hand: the 1 goes by 16 and 12 into the upper half, and by 8 and 7 round into the lower.
		{[4]uint32{0, 0, 0, 1}, [4]uint32{0x10000000, 0x80800808, 0x01010010, 0x01000010}},
	} {
		a, b, c, d := chacha.Quarter(x.in[0], x.in[1], x.in[2], x.in[3])
		if [4]uint32{a, b, c, d} != x.out {
			t.Errorf("%08x: %08x %08x %08x %08x", x.in, a, b, c, d)
		}
	}
}

func TestQuarterOfEdges(t *testing.T) {
	for n := range len(words) * len(words) * len(words) * len(words) {
		var s [16]uint32
		for i := range 4 {
			s[i] = words[n%len(words)]
			n /= len(words)
		}
		a, b, c, d := chacha.Quarter(s[0], s[1], s[2], s[3])
		want := s
		quarter(&want, 0, 1, 2, 3)
		if a != want[0] || b != want[1] || c != want[2] || d != want[3] {
			t.Fatalf("%08x: %08x %08x %08x %08x", s[:4], a, b, c, d)
		}
	}
}

func TestState(t *testing.T) {
	var key [32]byte
	var nonce [12]byte
	for i := range key {
		key[i] = byte(0x80 + i)
	}
	for i := range nonce {
		nonce[i] = byte(0xe0 + i)
	}
	if got := chacha.State(key, 0x01020304, nonce); got != [16]uint32{
		0x61707865, 0x3320646e, 0x79622d32, 0x6b206574,
		0x83828180, 0x87868584, 0x8b8a8988, 0x8f8e8d8c,
		0x93929190, 0x97969594, 0x9b9a9998, 0x9f9e9d9c,
		0x01020304, 0xe3e2e1e0, 0xe7e6e5e4, 0xebeae9e8,
	} {
		t.Errorf("%08x", got)
	}
	if got := chacha.State([32]byte{}, 0, [12]byte{}); got != [16]uint32{0x61707865, 0x3320646e, 0x79622d32, 0x6b206574} {
		t.Errorf("of zeros: %08x", got)
	}
	r := rand.New(rand.NewSource(1))
	for range 1000 {
		key, counter, nonce := random(r)
		if got := chacha.State(key, counter, nonce); got != state(key, counter, nonce) {
			t.Fatalf("%x %08x %x: %08x", key, counter, nonce, got)
		}
	}
}

func TestEachByteHasItsPlaceInTheState(t *testing.T) {
	zero := chacha.State([32]byte{}, 0, [12]byte{})
	for i := range 32 {
		want := zero
		want[4+i/4] = 0x81 << (i % 4 * 8)
		var key [32]byte
		key[i] = 0x81
		if got := chacha.State(key, 0, [12]byte{}); got != want {
			t.Errorf("byte %d of the key: %08x", i, got)
		}
	}
	for i := range 12 {
		want := zero
		want[13+i/4] = 0x81 << (i % 4 * 8)
		var nonce [12]byte
		nonce[i] = 0x81
		if got := chacha.State([32]byte{}, 0, nonce); got != want {
			t.Errorf("byte %d of the nonce: %08x", i, got)
		}
	}
	for _, counter := range words {
		want := zero
		want[12] = counter
		if got := chacha.State([32]byte{}, counter, [12]byte{}); got != want {
			t.Errorf("counter %08x: %08x", counter, got)
		}
	}
}

func TestRound(t *testing.T) {
	// After each round of the key stream's state of RFC 8439, section 2.3.2, whose last one it shows.
	s := chacha.State(rising(), 1, exampleNonce)
	for range 10 {
		want := round(s)
		s = chacha.Round(s)
		if s != want {
			t.Fatalf("%08x, not %08x", s, want)
		}
	}
	if s != [16]uint32{
		0x837778ab, 0xe238d763, 0xa67ae21e, 0x5950bb2f,
		0xc4f2d0c7, 0xfc62bb2f, 0x8fa018fc, 0x3f5ec7b7,
		0x335271c2, 0xf29489f3, 0xeabda8fc, 0x82e46ebd,
		0xd19c12b4, 0xb04e16de, 0x9e83d0cb, 0x4e3c50a2,
	} {
		t.Errorf("%08x", s)
	}
	if got := chacha.Round([16]uint32{}); got != [16]uint32{} {
		t.Errorf("of zeros: %08x", got)
	}
}

func TestRoundOfMany(t *testing.T) {
	r := rand.New(rand.NewSource(2))
	for range 5000 {
		s := randomState(r)
		if got := chacha.Round(s); got != round(s) {
			t.Fatalf("%08x: %08x", s, got)
		}
	}
	for i := range 16 {
		for _, w := range words {
			var s [16]uint32
			s[i] = w
			if got := chacha.Round(s); got != round(s) {
				t.Fatalf("%08x: %08x", s, got)
			}
		}
	}
}

func TestBlock(t *testing.T) {
	var ones [32]byte
	var onesNonce [12]byte
	for i := range ones {
		ones[i] = 0xff
	}
	for i := range onesNonce {
		onesNonce[i] = 0xff
	}
	for _, x := range []struct {
		key     [32]byte
		counter uint32
		nonce   [12]byte
		want    string
	}{
		{rising(), 1, exampleNonce, "10f1e7e4d13b5915500fdd1fa32071c4c7d1f4c733c068030422aa9ac3d46c4ed2826446079faa0914c2d705d98b02a2b5129cd1de164eb9cbd083e8a2503c4e"},
		{[32]byte{}, 0, [12]byte{}, "76b8e0ada0f13d90405d6ae55386bd28bdd219b8a08ded1aa836efcc8b770dc7da41597c5157488d7724e03fb8d84a376a43b8f41518a11cc387b669b2ee6586"},
		{unlike(), 0x01020304, unlikeNonce, "715ae3ccbde883aa4f7a24d030a0766504594f370410a2484008815da72ea965061a194968c774ccf553d848373f963d8fcffa794d592723c68e255331cece89"},
		{unlike(), last - 1, unlikeNonce, "32d8c6018c0eb7193045d69447de092d46bee33efd268d90c9d166d01005bb38795460ecc72c22eb05650e02f0f899e072a99f1630713fb8c03eed8adea85482"},
		{unlike(), last, unlikeNonce, "310acc27061b1b5df8ae5a2bb2c179e662cb96f00841cf4814c27d58328bcef59443cb9bb8e664d11625443262402b4f70f879289914f3212792e6a037a04a94"},
		{unlike(), 1 << 31, unlikeNonce, "8072a9da36853b06c85f1ec88beb9a1d2159a1000a86ce6dc1ae478eefb421d8e8eb852b254b29e80f1ee7ace3294db7e502aa7fefed2df9f581d18711fb8102"},
		// All bytes ff: each word of the initial state passes 2^32 when it is added.
		{ones, last, onesNonce, "d72b21cfa4b6b0c41d61f62b8a11159c6a4f63bc56c2035796c7ad37811121bbec56d54a530f3a933dd28a50feb23bfaf64f405be985f3718bdf4683e96be749"},
	} {
		got := chacha.Block(x.key, x.counter, x.nonce)
		if !bytes.Equal(got[:], unhex(t, x.want)) {
			t.Errorf("%x %08x %x: %x", x.key, x.counter, x.nonce, got)
		}
	}
}

func TestBlockOfMany(t *testing.T) {
	r := rand.New(rand.NewSource(3))
	for range 2000 {
		key, counter, nonce := random(r)
		got := chacha.Block(key, counter, nonce)
		if !bytes.Equal(got[:], block(key, counter, nonce)) {
			t.Fatalf("%x %08x %x: %x", key, counter, nonce, got)
		}
		if again := chacha.Block(key, counter, nonce); again != got {
			t.Fatal("asked again:", again)
		}
	}
}

func TestEachBitOfTheArgumentsCounts(t *testing.T) {
	want := chacha.Block(unlike(), 7, unlikeNonce)
	for i := range 256 {
		key := unlike()
		key[i/8] ^= 1 << (i % 8)
		if chacha.Block(key, 7, unlikeNonce) == want {
			t.Error("bit of the key", i)
		}
	}
	for i := range 96 {
		nonce := unlikeNonce
		nonce[i/8] ^= 1 << (i % 8)
		if chacha.Block(unlike(), 7, nonce) == want {
			t.Error("bit of the nonce", i)
		}
	}
	for i := range 32 {
		if chacha.Block(unlike(), 7^1<<i, unlikeNonce) == want {
			t.Error("bit of the counter", i)
		}
	}
}

// P2.2

func TestXorOfTheRFC(t *testing.T) {
	const text = "Ladies and Gentlemen of the class of '99: If I could offer you only one tip for the future, sunscreen would be it."
	got, e := chacha.Xor(rising(), 1, [12]byte{7: 0x4a}, []byte(text))
	if e != api.OK || !bytes.Equal(got, unhex(t, "6e2e359a2568f98041ba0728dd0d6981e97e7aec1d4360c20a27afccfd9fae0b"+
		"f91b65c5524733ab8f593dabcd62b3571639d624e65152ab8f530c359f0861d8"+
		"07ca0dbf500d6a6156a38e088a22b65e52bc514d16ccf806818ce91ab7793736"+
		"5af90bbf74a35be6b40b8eedf2785e42874d")) {
		t.Errorf("%x %d", got, e)
	}
}

func TestXorOfEachLength(t *testing.T) {
	b := some(64*5 + 1)
	want := xor(unlike(), 0x010203fe, unlikeNonce, b)
	for n := range len(b) + 1 {
		got, e := chacha.Xor(unlike(), 0x010203fe, unlikeNonce, b[:n])
		if e != api.OK || !bytes.Equal(got, want[:n]) {
			t.Fatalf("%d bytes: %x %d", n, got, e)
		}
	}
}

func TestXorOfZerosIsTheKeyStream(t *testing.T) {
	for _, blocks := range []int{1, 2, 3, 16, 257} {
		got, e := chacha.Xor(unlike(), 0xff, unlikeNonce, make([]byte, 64*blocks))
		if e != api.OK || len(got) != 64*blocks {
			t.Fatal(blocks, len(got), e)
		}
		for i := range blocks {
			if one := chacha.Block(unlike(), 0xff+uint32(i), unlikeNonce); !bytes.Equal(got[64*i:64*i+64], one[:]) {
				t.Fatalf("block %d of %d: %x", i, blocks, got[64*i:64*i+64])
			}
		}
	}
}

func TestXorOfMany(t *testing.T) {
	r := rand.New(rand.NewSource(4))
	for range 300 {
		key, counter, nonce := random(r)
		b := make([]byte, r.Intn(300))
		r.Read(b)
		got, e := chacha.Xor(key, counter, nonce, b)
		if e != api.OK || !bytes.Equal(got, xor(key, counter, nonce, b)) {
			t.Fatalf("%x %08x %x %x: %x %d", key, counter, nonce, b, got, e)
		}
	}
}

func TestXorAtTheLastCounters(t *testing.T) {
	for _, x := range []struct {
		counter uint32
		size    int
		want    api.Errno
	}{
		{last, 0, api.OK}, {last, 1, api.OK}, {last, 63, api.OK}, {last, 64, api.OK},
		{last, 65, api.ErrLong}, {last, 127, api.ErrLong}, {last, 128, api.ErrLong}, {last, 129, api.ErrLong},
		{last, 1 << 20, api.ErrLong},
		{last - 1, 64, api.OK}, {last - 1, 65, api.OK}, {last - 1, 127, api.OK}, {last - 1, 128, api.OK},
		{last - 1, 129, api.ErrLong}, {last - 1, 192, api.ErrLong},
		{last - 4, 5*64 - 1, api.OK}, {last - 4, 5 * 64, api.OK}, {last - 4, 5*64 + 1, api.ErrLong}, {last - 4, 6 * 64, api.ErrLong},
		{last - 999, 64000, api.OK}, {last - 999, 64001, api.ErrLong}, {last - 998, 64000, api.ErrLong},
		{0, 0, api.OK}, {0, 1, api.OK}, {0, 64001, api.OK},
		{1 << 31, 64001, api.OK},
	} {
		b := some(x.size)
		got, e := chacha.Xor(unlike(), x.counter, unlikeNonce, b)
		if e != x.want {
			t.Errorf("%08x, %d bytes: %d", x.counter, x.size, e)
		}
		if e != api.OK && len(got) != 0 {
			t.Errorf("%08x, %d bytes: %d are told beside an error", x.counter, x.size, len(got))
		}
		if e != api.OK {
			continue
		}
		if len(got) != x.size {
			t.Fatalf("%08x, %d bytes: %d", x.counter, x.size, len(got))
		}
		for at := 0; at < x.size; at += 64 {
			end := min(at+64, x.size)
			one := block(unlike(), x.counter+uint32(at/64), unlikeNonce)
			for i := at; i < end; i++ {
				if got[i] != b[i]^one[i-at] {
					t.Fatalf("%08x, %d bytes: byte %d is %x", x.counter, x.size, i, got[i])
				}
			}
		}
	}
}

// P2.3

func TestXorTwiceRestores(t *testing.T) {
	r := rand.New(rand.NewSource(5))
	for _, size := range []int{0, 1, 63, 64, 65, 127, 128, 129, 640, 1000} {
		key, _, nonce := random(r)
		b := some(size)
		for _, counter := range []uint32{0, 1, last - 15} {
			once, e := chacha.Xor(key, counter, nonce, b)
			twice, f := chacha.Xor(key, counter, nonce, once)
			if e != api.OK || f != api.OK || !bytes.Equal(twice, b) {
				t.Error(counter, size, e, f)
			}
			if size >= 16 && bytes.Equal(once, b) {
				t.Error(counter, size, "stayed as they were")
			}
		}
	}
}

func TestXorOfParts(t *testing.T) {
	b := some(64*6 + 9)
	for _, counter := range []uint32{0, 0x0001fffd, last - 6} {
		whole, e := chacha.Xor(unlike(), counter, unlikeNonce, b)
		if e != api.OK {
			t.Fatal(counter, e)
		}
		for i := range 7 {
			for j := i; j < 7; j++ {
				var got []byte
				for _, x := range [3][2]int{{0, 64 * i}, {64 * i, 64 * j}, {64 * j, len(b)}} {
					part, e := chacha.Xor(unlike(), counter+uint32(x[0]/64), unlikeNonce, b[x[0]:x[1]])
					if e != api.OK {
						t.Fatal(counter, x, e)
					}
					got = append(got, part...)
				}
				if !bytes.Equal(got, whole) {
					t.Errorf("%08x, split at the blocks %d and %d", counter, i, j)
				}
			}
		}
	}
}

// back turns a quarter round back: its steps, the last first.
func back(s *[16]uint32, a, b, c, d int) {
	for _, n := range [2][2]int{{8, 7}, {16, 12}} {
		s[b] = bits.RotateLeft32(s[b], -n[1]) ^ s[c]
		s[c] -= s[d]
		s[d] = bits.RotateLeft32(s[d], -n[0]) ^ s[a]
		s[a] -= s[b]
	}
}

func roundBack(s [16]uint32) [16]uint32 {
	for i := range rows {
		w := rows[len(rows)-1-i]
		back(&s, w[0], w[1], w[2], w[3])
	}
	return s
}

func TestQuarterIsTurnedBack(t *testing.T) {
	r := rand.New(rand.NewSource(6))
	for range 5000 {
		s := randomState(r)
		a, b, c, d := chacha.Quarter(s[0], s[1], s[2], s[3])
		got := [16]uint32{a, b, c, d}
		back(&got, 0, 1, 2, 3)
		if [4]uint32(got[:4]) != [4]uint32(s[:4]) {
			t.Fatalf("%08x: %08x", s[:4], got[:4])
		}
		// The other way round: every four words are those of a quarter round.
		before := s
		back(&before, 0, 1, 2, 3)
		a, b, c, d = chacha.Quarter(before[0], before[1], before[2], before[3])
		if [4]uint32{a, b, c, d} != [4]uint32(s[:4]) {
			t.Fatalf("%08x: %08x %08x %08x %08x", s[:4], a, b, c, d)
		}
	}
}

func TestRoundIsTurnedBack(t *testing.T) {
	r := rand.New(rand.NewSource(7))
	for range 5000 {
		s := randomState(r)
		if got := roundBack(chacha.Round(s)); got != s {
			t.Fatalf("%08x: %08x", s, got)
		}
		if got := chacha.Round(roundBack(s)); got != s {
			t.Fatalf("%08x: %08x", s, got)
		}
	}
}

func TestDifferentStatesRemainDifferent(t *testing.T) {
	r := rand.New(rand.NewSource(8))
	seen := map[[16]uint32][16]uint32{}
	for range 20 {
		s := randomState(r)
		list := [][16]uint32{s}
		for i := range 512 {
			near := s
			near[i/32] ^= 1 << (i % 32)
			list = append(list, near)
		}
		for _, in := range list {
			out := chacha.Round(in)
			if other, ok := seen[out]; ok && other != in {
				t.Fatalf("%08x and %08x become %08x", in, other, out)
			}
			seen[out] = in
		}
	}
}

// Rules 3, 4 and 6

// spare returns n bytes with spare capacity that is filled with ee, and all of the memory.
func spare(n int) (b, all []byte) {
	all = append(some(n), bytes.Repeat([]byte{0xee}, 200)...)
	return all[:n], all
}

// fill writes over b and over its spare capacity.
func fill(b []byte, c byte) {
	b = b[:cap(b)]
	for i := range b {
		b[i] = c
	}
}

func TestXorChangesNoArgument(t *testing.T) {
	for _, size := range []int{0, 1, 63, 64, 65, 200} {
		for _, counter := range []uint32{1, last} {
			key, nonce := unlike(), unlikeNonce
			b, all := spare(size)
			before := bytes.Clone(all)
			got, _ := chacha.Xor(key, counter, nonce, b)
			chacha.Block(key, counter, nonce)
			chacha.Round(chacha.State(key, counter, nonce))
			if !bytes.Equal(all, before) || key != unlike() || nonce != unlikeNonce {
				t.Fatal(size, counter, "an argument was written")
			}
			fill(got, 1)
			if !bytes.Equal(all, before) {
				t.Error(size, counter, "the result is not new memory")
			}
		}
	}
}

func TestXorKeepsNothing(t *testing.T) {
	b, all := spare(130)
	first, _ := chacha.Xor(unlike(), 9, unlikeNonce, b)
	second, _ := chacha.Xor(unlike(), 9, unlikeNonce, b)
	want := xor(unlike(), 9, unlikeNonce, b)
	if bytes.Contains(second[:cap(second)], []byte{0xee, 0xee, 0xee, 0xee}) {
		t.Error("spare capacity was returned")
	}
	fill(all, 2)
	fill(first, 3)
	if !bytes.Equal(second, want) {
		t.Errorf("%x", second)
	}
	if third, _ := chacha.Xor(unlike(), 9, unlikeNonce, some(130)); !bytes.Equal(third, want) {
		t.Errorf("asked again: %x", third)
	}
}

func TestXorOfPieceOfMemory(t *testing.T) {
	all := some(300)
	want := xor(unlike(), 9, unlikeNonce, all[100:170])
	if got, e := chacha.Xor(unlike(), 9, unlikeNonce, all[100:170]); e != api.OK || !bytes.Equal(got, want) {
		t.Errorf("%x %d", got, e)
	}
	if !bytes.Equal(all, some(300)) {
		t.Error("what is beside the bytes was written")
	}
}

func TestNilAndEmptyAreTheSame(t *testing.T) {
	for _, b := range [][]byte{nil, {}, make([]byte, 0, 9), some(70)[:0]} {
		for _, counter := range []uint32{0, 1, last} {
			if got, e := chacha.Xor(unlike(), counter, unlikeNonce, b); e != api.OK || len(got) != 0 {
				t.Error(counter, got, e)
			}
		}
	}
}
