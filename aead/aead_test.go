package aead_test

import (
	"bytes"
	"crypto/sha256"
	"encoding/binary"
	"encoding/hex"
	"math/rand"
	"testing"

	"drawbridge/aead"
	"drawbridge/api"
	"drawbridge/chacha"
	"drawbridge/poly"
)

const sunscreen = "Ladies and Gentlemen of the class of '99: If I could offer you only one tip for the future, sunscreen would be it."

var (
	exampleNonce = [12]byte{7, 0, 0, 0, 0x40, 0x41, 0x42, 0x43, 0x44, 0x45, 0x46, 0x47}
	exampleAlong = []byte{0x50, 0x51, 0x52, 0x53, 0xc0, 0xc1, 0xc2, 0xc3, 0xc4, 0xc5, 0xc6, 0xc7}
	unlikeNonce  = [12]byte{0xa1, 0xb2, 0xc3, 0xd4, 0xe5, 0xf6, 0x07, 0x18, 0x29, 0x3a, 0x4b, 0x5c}
)

// rising is the key 80 81 .. 9f of the chapter's example.
func rising() (key [32]byte) {
	for i := range key {
		key[i] = byte(0x80 + i)
	}
	return key
}

// unlike is a key whose bytes all differ.
func unlike() (key [32]byte) {
	for i := range key {
		key[i] = byte(i*37 + 11)
	}
	return key
}

// some are n bytes, the same ones each time, any 251 of which in a row differ.
func some(n int) []byte {
	b := make([]byte, n)
	for i := range b {
		b[i] = byte(i % 251)
	}
	return b
}

// unhex are the bytes of text.
func unhex(t *testing.T, text string) []byte {
	t.Helper()
	b, err := hex.DecodeString(text)
	if err != nil {
		t.Fatal(err)
	}
	return b
}

// tag is the chapter's sentence about the tag.
func tag(key [32]byte, nonce [12]byte, cipher, along []byte) [16]byte {
	var b []byte
	for _, part := range [][]byte{along, cipher} {
		b = append(b, part...)
		for len(b)%16 != 0 {
			b = append(b, 0)
		}
	}
	b = binary.LittleEndian.AppendUint64(b, uint64(len(along)))
	b = binary.LittleEndian.AppendUint64(b, uint64(len(cipher)))
	block := chacha.Block(key, 0, nonce)
	return poly.Tag([32]byte(block[:32]), b)
}

// seal is the chapter's sentence about the sealed bytes.
func seal(key [32]byte, nonce [12]byte, plain, along []byte) []byte {
	var b []byte
	for i, c := range plain {
		if i%64 == 0 {
			block := chacha.Block(key, uint32(i/64)+1, nonce)
			b = append(b, block[:]...)
		}
		b[i] ^= c
	}
	b = b[:len(plain)]
	end := tag(key, nonce, b, along)
	return append(b, end[:]...)
}

// sealed are the bytes that Seal returns, for bytes that it must take.
func sealed(t *testing.T, key [32]byte, nonce [12]byte, plain, along []byte) []byte {
	t.Helper()
	b, e := aead.Seal(key, nonce, plain, along)
	if e != api.OK {
		t.Fatalf("%d bytes along %d: %d", len(plain), len(along), e)
	}
	return b
}

// opens checks that b opens as plain.
func opens(t *testing.T, key [32]byte, nonce [12]byte, b, along, plain []byte) {
	t.Helper()
	if got, e := aead.Open(key, nonce, b, along); e != api.OK || !bytes.Equal(got, plain) {
		t.Fatalf("%d bytes along %d: %d bytes, %d", len(b), len(along), len(got), e)
	}
}

// refused checks that b does not open, and that nothing of it is told.
func refused(t *testing.T, key [32]byte, nonce [12]byte, b, along []byte, want api.Errno) {
	t.Helper()
	if got, e := aead.Open(key, nonce, b, along); e != want || len(got) != 0 {
		t.Fatalf("%d bytes along %d: %d bytes, %d and not %d", len(b), len(along), len(got), e, want)
	}
}

// P4.1

func TestOnce(t *testing.T) {
	var ones [32]byte
	var onesNonce [12]byte
	for i := range ones {
		ones[i] = 0xff
	}
	for i := range onesNonce {
		onesNonce[i] = 0xff
	}
	tip := [32]byte(unhex(t, "1c9240a5eb55d38af333888604f6b5f0473917c1402b80099dca5cbc207075c0"))
	for _, x := range []struct {
		key   [32]byte
		nonce [12]byte
		want  string
	}{
		// RFC 8439, sections 2.6.2, 2.8.2 and A.4.
		{rising(), [12]byte{5: 1, 6: 2, 7: 3, 8: 4, 9: 5, 10: 6, 11: 7}, "8ad5a08b905f81cc815040274ab29471a833b637e3fd0da508dbb8e2fdd1a646"},
		{rising(), exampleNonce, "7bac2b252db447af09b67a55a4e955840ae1d6731075d9eb2a9375783ed553ff"},
		{[32]byte{}, [12]byte{}, "76b8e0ada0f13d90405d6ae55386bd28bdd219b8a08ded1aa836efcc8b770dc7"},
		{[32]byte{31: 1}, [12]byte{11: 2}, "ecfa254f845f647473d3cb140da9e87606cb33066c447b87bc2666dde3fbb739"},
		{tip, [12]byte{11: 2}, "965e3bc6f9ec7ed9560808f4d229f94b137ff275ca9b3fcbdd59deaad23310ae"},
		// Of another implementation.
		{unlike(), unlikeNonce, "b09df0896528b4255ac3fe3bb4fde0692190435f0f2314cf8b106a8f5cb46f1b"},
		{ones, onesNonce, "d6e63495eafed7fc3bf8e7c419fa77be8234a6a49df517ebab06c8f65d9f7a17"},
	} {
		if got := aead.Once(x.key, x.nonce); got != [32]byte(unhex(t, x.want)) {
			t.Errorf("%x %x: %x", x.key, x.nonce, got)
		}
	}
}

func TestOnceIsTheBeginningOfBlock0(t *testing.T) {
	r := rand.New(rand.NewSource(1))
	for range 1000 {
		var key [32]byte
		var nonce [12]byte
		r.Read(key[:])
		r.Read(nonce[:])
		block := chacha.Block(key, 0, nonce)
		if got := aead.Once(key, nonce); !bytes.Equal(got[:], block[:32]) {
			t.Fatalf("%x %x: %x", key, nonce, got)
		}
	}
}

func TestTagOfEachLength(t *testing.T) {
	for cipher := range 70 {
		for along := range 70 {
			// Their bytes differ, so that one in place of the other is seen.
			c, a := some(cipher + 100)[100:], some(along)
			if got := aead.Tag(unlike(), unlikeNonce, c, a); got != tag(unlike(), unlikeNonce, c, a) {
				t.Fatalf("%d bytes along %d: %x", cipher, along, got)
			}
		}
	}
}

// Tag has no bound: all bytes of the lengths count. The tags are those of another implementation, of what it sealed.
func TestTagOfMoreThanIsSealed(t *testing.T) {
	for _, x := range []struct {
		plain, along int
		want         string
	}{
		{1<<16 + 1, 0, "909de4c3f4ce64663d34d1f8b1f2ac00"},
		{0, 1<<16 + 1, "44c8fd66b14cc6852f980cf8794a249e"},
		{70000, 70001, "938d87aca95b8102906aa492ab7251e6"},
		{1 << 24, 0, "84f1e1424e92748811a63a3b00db295a"},
		{5, 1<<24 + 1, "51d17bfee8b60753c91e0f7c95cf7d3f"},
	} {
		cipher, e := chacha.Xor(unlike(), 1, unlikeNonce, some(x.plain))
		if e != api.OK {
			t.Fatal(e)
		}
		if got := aead.Tag(unlike(), unlikeNonce, cipher, some(x.along)); got != [16]byte(unhex(t, x.want)) {
			t.Errorf("%d bytes along %d: %x", x.plain, x.along, got)
		}
	}
}

// No two of these have the same tag, though the padding makes the same bytes of many of them.
func TestTagTellsPartsApart(t *testing.T) {
	seen := map[[16]byte][2]int{}
	for cipher := range 40 {
		for along := range 40 {
			got := aead.Tag(unlike(), unlikeNonce, make([]byte, cipher), make([]byte, along))
			if other, ok := seen[got]; ok {
				t.Fatalf("%d zeros along %d, and %d along %d: %x", cipher, along, other[0], other[1], got)
			}
			seen[got] = [2]int{cipher, along}
		}
	}
}

func TestExtra(t *testing.T) {
	if got := aead.Extra(); got != 16 {
		t.Error(got)
	}
	for _, n := range []int{0, 1, 16, 100, api.MaxSeal} {
		if got := sealed(t, unlike(), unlikeNonce, some(n), nil); len(got) != n+aead.Extra() {
			t.Errorf("%d bytes: %d", n, len(got))
		}
	}
}

// P4.2

func TestSealOfTheExample(t *testing.T) {
	want := unhex(t, "d31a8d34648e60db7b86afbc53ef7ec2a4aded51296e08fea9e2b5a736ee62d6"+
		"3dbea45e8ca9671282fafb69da92728b1a71de0a9e060b2905d6a5b67ecd3b36"+
		"92ddbd7f2d778b8c9803aee328091b58fab324e4fad675945585808b4831d7bc"+
		"3ff4def08e4b7a9de576d26586cec64b6116"+"1ae10b594f09e26a7e902ecbd0600691")
	if got := sealed(t, rising(), exampleNonce, []byte(sunscreen), exampleAlong); !bytes.Equal(got, want) {
		t.Errorf("%x", got)
	}
	opens(t, rising(), exampleNonce, want, exampleAlong, []byte(sunscreen))
	end := len(want) - 16
	if got := aead.Tag(rising(), exampleNonce, want[:end], exampleAlong); !bytes.Equal(got[:], want[end:]) {
		t.Errorf("%x", got)
	}
	refused(t, rising(), exampleNonce, want[:15], exampleAlong, api.ErrMore)
}

// RFC 8439, section A.5.
func TestOpenOfTheRFC(t *testing.T) {
	b := unhex(t, "64a0861575861af460f062c79be643bd5e805cfd345cf389f108670ac76c8cb2"+
		"4c6cfc18755d43eea09ee94e382d26b0bdb7b73c321b0100d4f03b7f355894cf"+
		"332f830e710b97ce98c8a84abd0b948114ad176e008d33bd60f982b1ff37c855"+
		"9797a06ef4f0ef61c186324e2b3506383606907b6a7c02b0f9f6157b53c867e4"+
		"b9166c767b804d46a59b5216cde7a4e99040c5a40433225ee282a1b0a06c523e"+
		"af4534d7f83fa1155b0047718cbc546a0d072b04b3564eea1b422273f548271a"+
		"0bb2316053fa76991955ebd63159434ecebb4e466dae5a1073a6727627097a10"+
		"49e617d91d361094fa68f0ff77987130305beaba2eda04df997b714d6c6f2c29"+
		"a6ad5cb4022b02709b"+"eead9d67890cbb22392336fea1851f38")
	const text = "Internet-Drafts are draft documents valid for a maximum of six months and may be updated, replaced, or " +
		"obsoleted by other documents at any time. It is inappropriate to use Internet-Drafts as reference material or to " +
		"cite them other than as /\xe2\x80\x9cwork in progress./\xe2\x80\x9d"
	key := [32]byte(unhex(t, "1c9240a5eb55d38af333888604f6b5f0473917c1402b80099dca5cbc207075c0"))
	nonce := [12]byte(unhex(t, "000000000102030405060708"))
	along := unhex(t, "f33388860000000000004e91")
	opens(t, key, nonce, b, along, []byte(text))
	if got := sealed(t, key, nonce, []byte(text), along); !bytes.Equal(got, b) {
		t.Errorf("%x", got)
	}
}

// Of another implementation.
func TestSealOfKnownBytes(t *testing.T) {
	const cipher = "6c06a277611da1fb3a87ab0c175ceda476b001620b4247c4cbdb9adc77a6a767d6e06e2c20b946b444e9024353b052fa63e71727768e3b6e4f932c7cf5a4bc7fdc"
	for _, x := range []struct {
		plain, along int
		tag          string
	}{
		{0, 0, "3d55b06b8c5535d6b984689e7df1c827"},
		{0, 1, "929a1dc11283dc10f57d51088ad5ecfa"},
		{1, 0, "8239d7d9625353f62e88b5eb0cbeed16"},
		{1, 1, "b554a1c15be568b64297a22600b663ea"},
		{15, 15, "271c64695f1b22b4c5af186cff72ab9e"},
		{16, 16, "c7c7ae335ee50654c311f2d1512fff83"},
		{17, 17, "cf53f59541c58a2b9465450ea50fec05"},
		{15, 16, "2f78542cf3f8c1b98d69d72b5d2b5cc9"},
		{16, 15, "ba6bbe70ca07674efb573312f4764e59"},
		{31, 33, "20fc1192c650a83e8c20eb1466aa7af2"},
		{32, 0, "afbc938528b21a276df3d2828b7c82cc"},
		{0, 32, "19799c81d76dcb92d96dfcf7cafba898"},
		{63, 64, "256448909405112774607478dc6bdb36"},
		{64, 63, "3336f283d43ac49aab39f2558a5ce3c1"},
		{65, 1, "6882eb3bd08be83a84892ce6e8fe22ef"},
	} {
		want := unhex(t, cipher[:2*x.plain]+x.tag)
		if got := sealed(t, unlike(), unlikeNonce, some(x.plain), some(x.along)); !bytes.Equal(got, want) {
			t.Errorf("%d bytes along %d: %x", x.plain, x.along, got)
		}
		opens(t, unlike(), unlikeNonce, want, some(x.along), some(x.plain))
	}
}

// The digest is that of all sealed bytes of another implementation, one after the other.
func TestSealOfEachLength(t *testing.T) {
	h := sha256.New()
	for plain := range 150 {
		for along := range 50 {
			b := sealed(t, unlike(), unlikeNonce, some(plain), some(along))
			if want := seal(unlike(), unlikeNonce, some(plain), some(along)); !bytes.Equal(b, want) {
				t.Fatalf("%d bytes along %d: %x, not %x", plain, along, b, want)
			}
			h.Write(b)
		}
	}
	if got := hex.EncodeToString(h.Sum(nil)); got != "bfd014261aa152cdca40238607fc22a98648c57f1bb72efa5e64787d18ebb5a8" {
		t.Error(got)
	}
}

// The digests are those of the sealed bytes of another implementation.
func TestSealOfManyBytes(t *testing.T) {
	for _, x := range []struct {
		plain, along int
		digest       string
	}{
		{255, 257, "e22986256bfb2025b2630ca4590cee8ce763e51b277a01a821d53de5b83c44a5"},
		{256, 256, "6b2fab2dc60b5b082a1111262fdbeb2821420939404dce7eba173120f2ef3fd3"},
		{257, 255, "745b7868390df6735689708c189774e1d0d2dae92af07e3a0de06c268452a27d"},
		{65535, 65535, "9ad742e3c86e214e8a1ae685157f58f1cb71d2b10c3cd579cba0945e61ace6f5"},
		{65536, 0, "ce19149b95a295522cb4369e87d8d860cc5c7a5cbbe88ec08cbdeb22c90e8df5"},
		{0, 65536, "d9e28db3a21f842ea35db269adf28304f05470fb131484e495b80011d00922d2"},
		{65536, 65536, "cea39e14f16e405db6f879b806479e68ff267e4df511efee1548d29bb823caed"},
	} {
		b := sealed(t, unlike(), unlikeNonce, some(x.plain), some(x.along))
		if got := sha256.Sum256(b); !bytes.Equal(got[:], unhex(t, x.digest)) {
			t.Errorf("%d bytes along %d: %x", x.plain, x.along, got)
		}
		opens(t, unlike(), unlikeNonce, b, some(x.along), some(x.plain))
	}
}

func TestSealOfTooMuch(t *testing.T) {
	for _, x := range []struct {
		plain, along int
		want         api.Errno
	}{
		{api.MaxSeal, api.MaxSeal, api.OK},
		{api.MaxSeal + 1, 0, api.ErrLong},
		{0, api.MaxSeal + 1, api.ErrLong},
		{api.MaxSeal + 1, api.MaxSeal, api.ErrLong},
		{api.MaxSeal, api.MaxSeal + 1, api.ErrLong},
		{api.MaxSeal + 1, api.MaxSeal + 1, api.ErrLong},
		{api.MaxSeal + 16, 5, api.ErrLong},
		{1 << 20, 5, api.ErrLong},
		{5, 1 << 20, api.ErrLong},
	} {
		b, e := aead.Seal(unlike(), unlikeNonce, some(x.plain), some(x.along))
		if e != x.want {
			t.Errorf("%d bytes along %d: %d", x.plain, x.along, e)
		}
		if e != api.OK && len(b) != 0 {
			t.Errorf("%d bytes along %d: %d bytes beside an error", x.plain, x.along, len(b))
		}
	}
}

// Each length by itself, in the order of the errors: too few bytes, too many of either, another tag.
func TestOpenOfWrongLengths(t *testing.T) {
	key, nonce := unlike(), unlikeNonce
	for n := range 16 {
		for _, along := range []int{0, 1, 16, api.MaxSeal, api.MaxSeal + 1, 1 << 20} {
			refused(t, key, nonce, some(n), some(along), api.ErrMore)
		}
	}
	refused(t, key, nonce, nil, nil, api.ErrMore)
	for _, n := range []int{16, 17, 32, 100, api.MaxSeal, api.MaxSeal + 1, api.MaxSeal + 15, api.MaxSeal + 16} {
		refused(t, key, nonce, some(n), nil, api.ErrTag)
		refused(t, key, nonce, some(n), some(api.MaxSeal), api.ErrTag)
		refused(t, key, nonce, some(n), some(api.MaxSeal+1), api.ErrLong)
	}
	for _, n := range []int{api.MaxSeal + 17, api.MaxSeal + 18, api.MaxSeal + 32, 1 << 20} {
		for _, along := range []int{0, api.MaxSeal, api.MaxSeal + 1} {
			refused(t, key, nonce, some(n), some(along), api.ErrLong)
		}
	}
}

// Bytes that have the right tag, but are more than Seal takes.
func TestOpenOfTooMuchWithItsTag(t *testing.T) {
	for _, x := range []struct {
		plain, along int
		want         api.Errno
	}{
		{api.MaxSeal, api.MaxSeal, api.OK},
		{api.MaxSeal + 1, 0, api.ErrLong},
		{api.MaxSeal + 1, api.MaxSeal, api.ErrLong},
		{0, api.MaxSeal + 1, api.ErrLong},
		{api.MaxSeal, api.MaxSeal + 1, api.ErrLong},
	} {
		b := seal(unlike(), unlikeNonce, some(x.plain), some(x.along))
		if x.want == api.OK {
			opens(t, unlike(), unlikeNonce, b, some(x.along), some(x.plain))
		} else {
			refused(t, unlike(), unlikeNonce, b, some(x.along), x.want)
		}
	}
}

// P4.3

func TestOpenOfSeal(t *testing.T) {
	r := rand.New(rand.NewSource(2))
	for range 2000 {
		var key [32]byte
		var nonce [12]byte
		r.Read(key[:])
		r.Read(nonce[:])
		plain, along := make([]byte, r.Intn(300)), make([]byte, r.Intn(100))
		r.Read(plain)
		r.Read(along)
		b := sealed(t, key, nonce, plain, along)
		if !bytes.Equal(b, seal(key, nonce, plain, along)) {
			t.Fatalf("%x %x %x %x: %x", key, nonce, plain, along, b)
		}
		opens(t, key, nonce, b, along, plain)
	}
}

// flip changes one bit of b, for as long as check goes on.
func flip(b []byte, bit int, check func()) {
	b[bit/8] ^= 1 << (bit % 8)
	check()
	b[bit/8] ^= 1 << (bit % 8)
}

func TestEachChangedBitIsRefused(t *testing.T) {
	for _, x := range [][2]int{{0, 0}, {0, 5}, {1, 0}, {15, 16}, {16, 1}, {17, 33}, {70, 20}} {
		key, nonce, along := unlike(), unlikeNonce, some(x[1])
		b := sealed(t, key, nonce, some(x[0]), along)
		for _, part := range [][]byte{key[:], nonce[:], along, b} {
			for bit := range 8 * len(part) {
				flip(part, bit, func() { refused(t, key, nonce, b, along, api.ErrTag) })
			}
		}
		opens(t, key, nonce, b, along, some(x[0]))
	}
}

// Any two bits of the tag, so that no two differences of its bytes hide each other.
func TestEachOtherTagIsRefused(t *testing.T) {
	b := sealed(t, unlike(), unlikeNonce, some(20), some(3))
	for i := range 128 {
		for j := range i {
			flip(b[20:], i, func() {
				flip(b[20:], j, func() { refused(t, unlike(), unlikeNonce, b, some(3), api.ErrTag) })
			})
		}
	}
	r := rand.New(rand.NewSource(3))
	for range 2000 {
		r.Read(b[20:])
		refused(t, unlike(), unlikeNonce, b, some(3), api.ErrTag)
	}
	clear(b[20:])
	refused(t, unlike(), unlikeNonce, b, some(3), api.ErrTag)
}

func TestEachOtherLengthIsRefused(t *testing.T) {
	for plain := range 35 {
		b := sealed(t, unlike(), unlikeNonce, some(plain), some(9))
		for n := range len(b) {
			want := api.ErrTag
			if n < 16 {
				want = api.ErrMore
			}
			refused(t, unlike(), unlikeNonce, b[:n], some(9), want)
			refused(t, unlike(), unlikeNonce, b[len(b)-n:], some(9), want)
		}
		for n := 1; n < 20; n++ {
			refused(t, unlike(), unlikeNonce, append(bytes.Clone(b), make([]byte, n)...), some(9), api.ErrTag)
			// Zero bytes where the padding is.
			longer := append(bytes.Clone(b[:plain]), make([]byte, n)...)
			refused(t, unlike(), unlikeNonce, append(longer, b[plain:]...), some(9), api.ErrTag)
			refused(t, unlike(), unlikeNonce, b, append(some(9), make([]byte, n)...), api.ErrTag)
		}
	}
}

// What is tagged is the same bytes in both parts, but for the lengths.
func TestBytesThatMoveBetweenThePartsAreRefused(t *testing.T) {
	b := sealed(t, unlike(), unlikeNonce, some(48), some(32))
	all := append(some(32), b...)
	for _, n := range []int{0, 16, 31, 33, 48, 64, 80} {
		refused(t, unlike(), unlikeNonce, all[n:], all[:n], api.ErrTag)
	}
	opens(t, unlike(), unlikeNonce, all[32:], all[:32], some(48))
}

// Rules 3, 4 and 6

// spare returns n bytes with spare capacity that is filled with ee, and all of the memory.
func spare(n int) (b, all []byte) {
	all = append(some(n), bytes.Repeat([]byte{0xee}, 200)...)
	return all[:n], all
}

// fill writes over b and over its spare capacity.
func fill(b []byte, c byte) {
	b = b[:cap(b)]
	for i := range b {
		b[i] = c
	}
}

func TestNoArgumentIsChangedOrShared(t *testing.T) {
	for _, x := range [][2]int{{0, 0}, {0, 7}, {1, 0}, {15, 16}, {16, 15}, {100, 33}} {
		key, nonce := unlike(), unlikeNonce
		plain, allPlain := spare(x[0])
		along, allAlong := spare(x[1])
		want := seal(key, nonce, plain, along)
		cipher := append(bytes.Clone(want), bytes.Repeat([]byte{0xee}, 200)...)
		untouched := func() {
			t.Helper()
			_, wantPlain := spare(x[0])
			_, wantAlong := spare(x[1])
			if !bytes.Equal(allPlain, wantPlain) || !bytes.Equal(allAlong, wantAlong) || key != unlike() || nonce != unlikeNonce {
				t.Fatal(x, "an argument was written")
			}
			if !bytes.Equal(cipher[:len(want)], want) || bytes.Count(cipher[len(want):], []byte{0xee}) != 200 {
				t.Fatal(x, "the sealed bytes were written")
			}
		}
		for range 2 {
			got, e := aead.Seal(key, nonce, plain, along)
			untouched()
			if e != api.OK || !bytes.Equal(got, want) {
				t.Fatalf("%v: %x %d", x, got, e)
			}
			fill(got, 1)
			untouched()
			got, e = aead.Open(key, nonce, cipher[:len(want)], along)
			untouched()
			if e != api.OK || !bytes.Equal(got, plain) {
				t.Fatalf("%v: %x %d", x, got, e)
			}
			fill(got, 2)
			untouched()
			aead.Tag(key, nonce, cipher[:x[0]], along)
			aead.Open(key, nonce, cipher[:len(want)-1], along)
			untouched()
		}
	}
}

func TestNothingIsKept(t *testing.T) {
	plain, allPlain := spare(90)
	along, allAlong := spare(20)
	b := sealed(t, unlike(), unlikeNonce, plain, along)
	again := sealed(t, unlike(), unlikeNonce, plain, along)
	want := bytes.Clone(b)
	p, _ := aead.Open(unlike(), unlikeNonce, again, along)
	for _, got := range [][]byte{b, p} {
		if bytes.Contains(got[:cap(got)], []byte{0xee, 0xee, 0xee, 0xee}) {
			t.Error("spare capacity was returned")
		}
	}
	fill(allPlain, 2)
	fill(allAlong, 3)
	fill(again, 4)
	if !bytes.Equal(b, want) || !bytes.Equal(p, some(90)) {
		t.Errorf("%x %x", b, p)
	}
}

func TestOneMemoryForAllArguments(t *testing.T) {
	all := some(120)
	want := seal(unlike(), unlikeNonce, some(120)[20:90], some(120)[50:110])
	if got := sealed(t, unlike(), unlikeNonce, all[20:90], all[50:110]); !bytes.Equal(got, want) {
		t.Errorf("%x", got)
	}
	if !bytes.Equal(all, some(120)) {
		t.Error("what is beside the bytes was written")
	}
}

func TestNilAndEmptyAreTheSame(t *testing.T) {
	want := seal(unlike(), unlikeNonce, nil, nil)
	none := [][]byte{nil, {}, make([]byte, 0, 9), some(70)[:0]}
	for _, plain := range none {
		for _, along := range none {
			b := sealed(t, unlike(), unlikeNonce, plain, along)
			if !bytes.Equal(b, want) {
				t.Errorf("%x", b)
			}
			opens(t, unlike(), unlikeNonce, b, along, nil)
			if got := aead.Tag(unlike(), unlikeNonce, plain, along); !bytes.Equal(got[:], want) {
				t.Errorf("%x", got)
			}
			refused(t, unlike(), unlikeNonce, plain, along, api.ErrMore)
		}
	}
}
