package hkdf_test

import (
	"bytes"
	"crypto/hmac"
	"crypto/sha256"
	"math"
	"math/rand"
	"testing"

	"drawbridge/api"
	"drawbridge/hkdf"
)

// unlike is a key whose bytes all differ.
func unlike() (key [32]byte) {
	for i := range key {
		key[i] = byte(i*37 + 11)
	}
	return key
}

// from are n bytes that begin with another one than those of some.
func from(first, n int) []byte {
	return some(first + n)[first:]
}

// mac is the chapter's sentence about HMAC.
func mac(key, b []byte) [32]byte {
	if len(key) > 64 {
		short := sha256.Sum256(key)
		key = short[:]
	}
	padded := make([]byte, 64)
	copy(padded, key)
	inner, outer := make([]byte, 64), make([]byte, 64)
	for i, c := range padded {
		inner[i], outer[i] = c^0x36, c^0x5c
	}
	sum := sha256.Sum256(append(inner, b...))
	return sha256.Sum256(append(outer, sum[:]...))
}

// other is the HMAC of another implementation.
func other(key, b []byte) (sum [32]byte) {
	h := hmac.New(sha256.New, key)
	h.Write(b)
	h.Sum(sum[:0])
	return sum
}

// expand is the chapter's sentence about Expand, not truncated: t1 to t255.
func expand(key [32]byte, info []byte) []byte {
	var all, t []byte
	for n := 1; n <= 255; n++ {
		b := append(append(bytes.Clone(t), info...), byte(n))
		sum := mac(key[:], b)
		t = sum[:]
		all = append(all, t...)
	}
	return all
}

// expanded are the n bytes that Expand returns, for an n that it must take.
func expanded(t *testing.T, key [32]byte, info []byte, n int) []byte {
	t.Helper()
	b, e := hkdf.Expand(key, info, n)
	if e != api.OK || len(b) != max(n, 0) {
		t.Fatalf("%d bytes: %d bytes, %d", n, len(b), e)
	}
	return b
}

// P5.1

// RFC 4231, sections 4.2 to 4.8.
func TestMacOfKnownBytes(t *testing.T) {
	long := bytes.Repeat([]byte{0xaa}, 131)
	for _, x := range []struct {
		key, b []byte
		want   string
	}{
		{bytes.Repeat([]byte{0x0b}, 20), []byte("Hi There"), "b0344c61d8db38535ca8afceaf0bf12b881dc200c9833da726e9376c2e32cff7"},
		{[]byte("Jefe"), []byte("what do ya want for nothing?"), "5bdcc146bf60754e6a042426089575c75a003f089d2739839dec58b964ec3843"},
		{bytes.Repeat([]byte{0xaa}, 20), bytes.Repeat([]byte{0xdd}, 50), "773ea91e36800e46854db8ebd09181a72959098b3ef8c122d9635514ced565fe"},
		{some(26)[1:], bytes.Repeat([]byte{0xcd}, 50), "82558a389a443c0ea4cc819899f2083a85f0faa3e578f8077a2e3ff46729665b"},
		{bytes.Repeat([]byte{0x0c}, 20), []byte("Test With Truncation"), "a3b6167473100ee06e0c796c2955552b"},
		{long, []byte("Test Using Larger Than Block-Size Key - Hash Key First"), "60e431591ee0b67f0d8a26aacbf5b77f8e0bc6213728c5140546040f0ee37f54"},
		{long, []byte("This is a test using a larger than block-size key and a larger than block-size data. The key needs to be hashed before being used by the HMAC algorithm."),
			"9b09ffa71b942fcb27635fbcd5b0e944bfdc63644f0713938a7f51535c3a35e2"},
	} {
		want := unhex(t, x.want)
		if got := hkdf.Mac(x.key, x.b); !bytes.Equal(got[:len(want)], want) {
			t.Errorf("%x of %q: %x", x.key, x.b, got)
		}
	}
}

// Of another implementation.
func TestMacOfKnownLengths(t *testing.T) {
	for _, x := range []struct {
		key, n int
		want   string
	}{
		{0, 0, "b613679a0814d9ec772f95d778c35fc5ff1697c493715653c6c712144292c5ad"},
		{0, 1, "6620b31f2924b8c01547745f41825d322336f83ebb13d723678789d554d8a3ef"},
		{1, 0, "8769c0197cd02259f561eb1bf6156fd3ffe5a51483481c090cb477b9312e3f79"},
		{31, 70, "d500fad5db81433daa5f0fcda80e7a0ad91a356df1568e92f1fa37cbba05c0ed"},
		{32, 70, "8d16358488d67557da6265bdfd0db794bae1d53d9051dd6fff4dfee04cefaa9b"},
		{63, 5, "9e119008ff9f8eeb95d2fa1a7c7dbbc1953e365b34c88a2ea38511397d3191da"},
		{64, 5, "dc26c045e01b60964e9da84c78419618cd55bf8fde86e0c99691e46af8fcde77"},
		{65, 5, "5e822494a64fe1e3b4f987e51444b8b215c3d8b415b838a2a67acfac7d93779e"},
		{128, 5, "dd513ecb2ae3c8fb4cf11bc07ec9a385723c16ae1c81af17b76d6b38c0d3a5cc"},
		{129, 64, "b57934fc9f7ae170951e869cbe3850bcac4c5087079b8b62a536173a84efeb1c"},
		{1000, 200, "de6d2fe87006c38942f3b76dac65e44ca6dfa1793d45e17f935fed8f1fb3c691"},
	} {
		if got := hkdf.Mac(from(7, x.key), some(x.n)); !bytes.Equal(got[:], unhex(t, x.want)) {
			t.Errorf("a key of %d bytes, %d bytes: %x", x.key, x.n, got)
		}
	}
}

// The digest is that of all HMACs of another implementation, one after the other.
func TestMacOfEachLength(t *testing.T) {
	h := sha256.New()
	for key := range 140 {
		for n := range 70 {
			got := hkdf.Mac(from(7, key), some(n))
			if want := mac(from(7, key), some(n)); got != want || got != other(from(7, key), some(n)) {
				t.Fatalf("a key of %d bytes, %d bytes: %x, not %x", key, n, got, want)
			}
			h.Write(got[:])
		}
	}
	if got := h.Sum(nil); !bytes.Equal(got, unhex(t, "f14a41d9acd02709a2bc6645ef5deece38e356d33091918a032a2ecaf466a0a9")) {
		t.Errorf("%x", got)
	}
}

func TestMacOfEachBit(t *testing.T) {
	for _, size := range []int{1, 32, 64, 65, 100} {
		key, b := from(3, size), some(40)
		for _, part := range [][]byte{key, b} {
			for bit := range 8 * len(part) {
				part[bit/8] ^= 1 << (bit % 8)
				if got, want := hkdf.Mac(key, b), mac(key, b); got != want {
					t.Fatalf("%x of %x: %x, not %x", key, b, got, want)
				}
				part[bit/8] ^= 1 << (bit % 8)
			}
		}
	}
}

func TestExtract(t *testing.T) {
	r := rand.New(rand.NewSource(3))
	for range 1000 {
		salt, secret := make([]byte, r.Intn(150)), make([]byte, r.Intn(150))
		r.Read(salt)
		r.Read(secret)
		if got, want := hkdf.Extract(salt, secret), mac(salt, secret); got != want {
			t.Fatalf("%x %x: %x, not %x", salt, secret, got, want)
		}
	}
}

// P5.2

// RFC 5869, sections A.1 to A.3.
func TestKnownKeys(t *testing.T) {
	for _, x := range []struct {
		salt, secret, info []byte
		n                  int
		key, want          string
	}{
		{some(13), bytes.Repeat([]byte{0x0b}, 22), from(0xf0, 10), 42,
			"077709362c2e32df0ddc3f0dc47bba6390b6c73bb50f9c3122ec844ad7c2b3e5",
			"3cb25f25faacd57a90434f64d0362f2a2d2d0a90cf1a5a4c5db02d56ecc4c5bf34007208d5b887185865"},
		{from(0x60, 80), some(80), upto(0xb0, 0xff), 82,
			"06a6b88c5853361a06104c9ceb35b45cef760014904671014a193f40c15fc244",
			"b11e398dc80327a1c8e7f78c596a49344f012eda2d4efad8a050cc4c19afa97c59045a99cac7827271cb41c65e590e09da3275600c2f09b8367793a9aca3db71cc30c58179ec3e87c14c01d5c1f3434f1d87"},
		{nil, bytes.Repeat([]byte{0x0b}, 22), nil, 42,
			"19ef24a32c717b167f33a91d6f648bdf96596776afdb6377ac434c1c293ccb04",
			"8da4e775a563c18f715f802a063c5a31b8a11f5c5ee1879ec3454e5f3c738d2d9d201395faa4b61a96c8"},
	} {
		key := hkdf.Extract(x.salt, x.secret)
		if !bytes.Equal(key[:], unhex(t, x.key)) {
			t.Errorf("%x %x: %x", x.salt, x.secret, key)
		}
		if got := expanded(t, key, x.info, x.n); !bytes.Equal(got, unhex(t, x.want)) {
			t.Errorf("%x %x: %x", key, x.info, got)
		}
		if got := hkdf.Key(x.salt, x.secret, x.info); !bytes.Equal(got[:], unhex(t, x.want)[:32]) {
			t.Errorf("%x %x %x: %x", x.salt, x.secret, x.info, got)
		}
	}
}

// upto are the bytes from first to last.
func upto(first, last int) []byte {
	var b []byte
	for c := first; c <= last; c++ {
		b = append(b, byte(c))
	}
	return b
}

// The digests are those of all 255 times 32 bytes of another implementation.
func TestExpandOfAllBytes(t *testing.T) {
	for _, x := range []struct {
		info   int
		digest string
	}{
		{0, "c1eb68b774ec02093eb6e7c0af7d470bd5dd20963dce27d3a2719e3943e50fe4"},
		{1, "b67c8b6520fc8507d5af021963d4df7f95954c9b50290c2c59f0af63693e0e0e"},
		{10, "ae9bdf216578014c9e6494123e3481a83e5f97b9252a64b8691ef0df5a233a3a"},
		{64, "3d9c36223a61a07a91e0ecc92995ac8d8f956ed3c3d35527e38b9e6ecfda201c"},
		{300, "47cd4a95ee84b0ea0fbc7a3a94a0c8a0ece3e6ebb4609010498e501d770215cc"},
	} {
		b := expanded(t, unlike(), some(x.info), 255*32)
		if !bytes.Equal(b, expand(unlike(), some(x.info))) {
			t.Errorf("an info of %d bytes: %x", x.info, b)
		}
		if got := sha256.Sum256(b); !bytes.Equal(got[:], unhex(t, x.digest)) {
			t.Errorf("an info of %d bytes: the digest %x", x.info, got)
		}
	}
}

func TestExpandOfLengths(t *testing.T) {
	all := expand(unlike(), some(3))
	for _, n := range []int{0, 1, 2, 31, 32, 33, 63, 64, 65, 95, 96, 97, 254 * 32, 254*32 + 1, 255*32 - 1, 255 * 32} {
		if got := expanded(t, unlike(), some(3), n); !bytes.Equal(got, all[:n]) {
			t.Errorf("%d bytes: %x", n, got)
		}
	}
	for _, n := range []int{-1, -2, -31, -32, -33, -255 * 32, -255*32 - 1, math.MinInt32, math.MinInt + 1, math.MinInt} {
		if got := expanded(t, unlike(), some(3), n); len(got) != 0 {
			t.Errorf("%d bytes: %x", n, got)
		}
	}
	for _, n := range []int{255*32 + 1, 255*32 + 2, 255*32 + 31, 256 * 32, 256*32 + 1, 1 << 20, math.MaxInt32, math.MaxInt - 31, math.MaxInt} {
		for _, info := range [][]byte{nil, some(3), some(100)} {
			if got, e := hkdf.Expand(unlike(), info, n); e != api.ErrLong || len(got) != 0 {
				t.Errorf("%d bytes: %d bytes, %d", n, len(got), e)
			}
		}
	}
}

func TestExpandOfAnyKey(t *testing.T) {
	r := rand.New(rand.NewSource(4))
	for range 100 {
		var key [32]byte
		r.Read(key[:])
		info := make([]byte, r.Intn(200))
		r.Read(info)
		n := r.Intn(200)
		if got, want := expanded(t, key, info, n), expand(key, info)[:n]; !bytes.Equal(got, want) {
			t.Fatalf("%x %x: %x, not %x", key, info, got, want)
		}
	}
}

// Of another implementation.
func TestKeyOfKnownLengths(t *testing.T) {
	for _, x := range []struct {
		salt, secret, info int
		want               string
	}{
		{0, 0, 0, "eb70f01dede9afafa449eee1b1286504e1f62388b3f7dd4f956697b0e828fe18"},
		{13, 22, 10, "3a1087a361dfbf1e62b58cfdf5ffbd402ee18b24d6d47df68b75e3654cd5cc26"},
		{64, 32, 5, "1687b8e4bb6b4c9ca5a6f859b40a3633c31c0b3be9b8d4948e0145126d8c1650"},
		{65, 32, 0, "920d9f7c2ca718d834408c162603670505be5ba554142cf4c21a51c14a0bef3f"},
		{100, 200, 300, "b3414561296058bdd5ab9c3c3aec3c0607fe3f9ef790aa67fc78171aba1113a0"},
	} {
		if got := hkdf.Key(from(3, x.salt), from(5, x.secret), some(x.info)); !bytes.Equal(got[:], unhex(t, x.want)) {
			t.Errorf("%d %d %d: %x", x.salt, x.secret, x.info, got)
		}
	}
}

func TestKeyIsExpandOfExtract(t *testing.T) {
	r := rand.New(rand.NewSource(5))
	for range 1000 {
		salt, secret, info := make([]byte, r.Intn(100)), make([]byte, r.Intn(100)), make([]byte, r.Intn(100))
		r.Read(salt)
		r.Read(secret)
		r.Read(info)
		key := mac(salt, secret)
		if got, want := hkdf.Key(salt, secret, info), mac(key[:], append(info, 1)); got != want {
			t.Fatalf("%x %x %x: %x, not %x", salt, secret, info, got, want)
		}
	}
}

// P5.3

func TestMacOfTwoPieces(t *testing.T) {
	for _, size := range []int{0, 20, 64, 65} {
		key, b := from(7, size), some(140)
		want := mac(key, b)
		for at := range len(b) + 1 {
			for _, list := range [][][]byte{{b[:at], b[at:]}, {nil, b[:at], {}, b[at:], nil}} {
				if got := hkdf.Mac(key, list...); got != want {
					t.Fatalf("a key of %d bytes, at %d: %x, not %x", size, at, got, want)
				}
			}
		}
	}
}

func TestMacOfAnyPieces(t *testing.T) {
	r := rand.New(rand.NewSource(6))
	for range 2000 {
		key, b := make([]byte, r.Intn(100)), make([]byte, r.Intn(300))
		r.Read(key)
		r.Read(b)
		list := pieces(r, b)
		if got, want := hkdf.Mac(key, list...), mac(key, b); got != want {
			t.Fatalf("%x of %x: %x, not %x", key, list, got, want)
		}
	}
}

func TestALongerExpandBeginsWithAShorterOne(t *testing.T) {
	all := expanded(t, unlike(), some(20), 255*32)
	for n := 0; n <= 400; n++ {
		if got := expanded(t, unlike(), some(20), n); !bytes.Equal(got, all[:n]) {
			t.Fatalf("%d bytes: %x", n, got)
		}
	}
	for n := 401; n <= 255*32; n += 97 {
		if got := expanded(t, unlike(), some(20), n); !bytes.Equal(got, all[:n]) {
			t.Fatalf("%d bytes: %x", n, got)
		}
	}
}

func TestAKeyAndTheSameWithZeroBytesHaveTheSameMac(t *testing.T) {
	for size := range 65 {
		key, b := from(1, size), some(size)
		want := hkdf.Mac(key, b)
		for zeros := range 65 - size {
			if got := hkdf.Mac(append(bytes.Clone(key), make([]byte, zeros)...), b); got != want {
				t.Fatalf("%d bytes and %d zero bytes: %x, not %x", size, zeros, got, want)
			}
		}
		// A longer one is replaced, so that it is another key.
		if got := hkdf.Mac(append(bytes.Clone(key), make([]byte, 65-size)...), b); got == want {
			t.Fatalf("%d bytes and zero bytes up to 65: %x", size, got)
		}
	}
}

func TestALongKeyIsItsSum(t *testing.T) {
	for size := 65; size < 300; size++ {
		short := sha256.Sum256(some(size))
		if got, want := hkdf.Mac(some(size), some(9)), hkdf.Mac(short[:], some(9)); got != want {
			t.Fatalf("%d bytes: %x, not %x", size, got, want)
		}
	}
}
