package poly_test

import (
	"bytes"
	"encoding/hex"
	"math/big"
	"math/rand"
	"slices"
	"testing"

	"drawbridge/poly"
)

// unlike is a key whose bytes all differ.
func unlike() (key [32]byte) {
	for i := range key {
		key[i] = byte(i*37 + 11)
	}
	return key
}

// ones is a key of which all bits are 1.
func ones() (key [32]byte) {
	for i := range key {
		key[i] = 0xff
	}
	return key
}

// some are n bytes, the same ones each time, any 251 of which in a row differ.
func some(n int) []byte {
	b := make([]byte, n)
	for i := range b {
		b[i] = byte(i % 251)
	}
	return b
}

// full are n bytes of which all bits are 1.
func full(n int) []byte {
	return bytes.Repeat([]byte{0xff}, n)
}

// random are n bytes that are the same in each run.
func random(r *rand.Rand, n int) []byte {
	b := make([]byte, n)
	r.Read(b)
	return b
}

// unhex are the bytes of text.
func unhex(t *testing.T, text string) []byte {
	t.Helper()
	b, err := hex.DecodeString(text)
	if err != nil {
		t.Fatal(err)
	}
	return b
}

// power is 2^n + more.
func power(n uint, more int64) *big.Int {
	x := new(big.Int).Lsh(big.NewInt(1), n)
	return x.Add(x, big.NewInt(more))
}

var modulus = power(130, -5)

// number is the number of b, its lowest byte first.
func number(b []byte) *big.Int {
	b = bytes.Clone(b)
	slices.Reverse(b)
	return new(big.Int).SetBytes(b)
}

// number16 are the lowest sixteen bytes of x, the lowest first.
func number16(x *big.Int) (b [16]byte) {
	x = new(big.Int).Mod(x, power(128, 0))
	x.FillBytes(b[:])
	slices.Reverse(b[:])
	return b
}

// keyOf is the key of two numbers.
func keyOf(r, s *big.Int) (key [32]byte) {
	x, y := number16(r), number16(s)
	copy(key[:16], x[:])
	copy(key[16:], y[:])
	return key
}

// kept tells which bits of the key's first half r has, as the chapter lists those that it has not.
func kept(i int) bool {
	switch i / 8 {
	case 3, 7, 11, 15:
		return i%8 < 4
	case 4, 8, 12:
		return i%8 >= 2
	}
	return true
}

// clamped is r of the key, bit by bit.
func clamped(key [32]byte) *big.Int {
	r := new(big.Int)
	for i := range 128 {
		if kept(i) && key[i/8]>>(i%8)&1 == 1 {
			r.SetBit(r, i, 1)
		}
	}
	return r
}

// sum is the chapter's sentence about blocks: the sum of b for r, before s is added.
func sum(r *big.Int, b []byte) *big.Int {
	x := new(big.Int)
	for block := range slices.Chunk(b, 16) {
		x.Add(x, number(append(bytes.Clone(block), 1)))
		x.Mul(x, r)
		x.Mod(x, modulus)
	}
	return x
}

// tag is the chapter's sentence about the tag.
func tag(key [32]byte, b []byte) [16]byte {
	x := sum(clamped(key), b)
	return number16(x.Add(x, number(key[16:])))
}

func check(t *testing.T, key [32]byte, b []byte, want [16]byte) {
	t.Helper()
	if got := poly.Tag(key, b); got != want {
		t.Errorf("key %x, %d bytes: %x, not %x", key, len(b), got, want)
	}
}

// P3.1

func TestClampOfEachBit(t *testing.T) {
	all := poly.Clamp(ones())
	if all != [16]byte(unhex(t, "ffffff0ffcffff0ffcffff0ffcffff0f")) {
		t.Errorf("of ones: %x", all)
	}
	if got := poly.Clamp([32]byte{}); got != [16]byte{} {
		t.Errorf("of zeros: %x", got)
	}
	for i := range 256 {
		var key [32]byte
		key[i/8] = 1 << (i % 8)
		var want [16]byte
		if i < 128 && kept(i) {
			want[i/8] = 1 << (i % 8)
		}
		if got := poly.Clamp(key); got != want {
			t.Errorf("bit %d alone: %x", i, got)
		}
		key = ones()
		key[i/8] ^= 1 << (i % 8)
		want = all
		if i < 128 {
			want[i/8] &^= 1 << (i % 8)
		}
		if got := poly.Clamp(key); got != want {
			t.Errorf("all bits but %d: %x", i, got)
		}
	}
}

func TestClamp(t *testing.T) {
	example := [32]byte(unhex(t, "85d6be7857556d337f4452fe42d506a80103808afb0db2fd4abff6af4149f51b"))
	if got := poly.Clamp(example); got != [16]byte(unhex(t, "85d6be0854556d037c44520e40d50608")) {
		t.Errorf("of the example: %x", got)
	}
	// 0b 30 55 7a, 9f c4 e9 0e, 33 58 7d a2, c7 ec 11 36, cut by hand.
	if got := poly.Clamp(unlike()); got != [16]byte(unhex(t, "0b30550a9cc4e90e30587d02c4ec1106")) {
		t.Errorf("%x", got)
	}
	r := rand.New(rand.NewSource(1))
	for range 1000 {
		key := [32]byte(random(r, 32))
		if got := poly.Clamp(key); got != number16(clamped(key)) {
			t.Fatalf("%x: %x", key, got)
		}
	}
}

func TestTagOfTheRFC(t *testing.T) {
	const ietf = "Any submission to the IETF intended by the Contributor for publication as all or part of an IETF " +
		"Internet-Draft or RFC and any statement made within the context of an IETF activity is considered an \"IETF " +
		"Contribution\". Such statements include oral statements in IETF sessions, as well as written and electronic " +
		"communications made at any time or place, which are addressed to"
	const brillig = "'Twas brillig, and the slithy toves\nDid gyre and gimble in the wabe:\n" +
		"All mimsy were the borogoves,\nAnd the mome raths outgrabe."
	const zeros = "00000000000000000000000000000000"
	const s = "36e5f6b5c5e06070f0efca96227a863e"
	const ten = "e33594d7505e43b900000000000000003394d7505e4379cd0100000000000000" + zeros
	for _, x := range []struct {
		key, text, want string
	}{
		{"85d6be7857556d337f4452fe42d506a80103808afb0db2fd4abff6af4149f51b", hex.EncodeToString([]byte("Cryptographic Forum Research Group")), "a8061dc1305136c6c22b8baf0c0127a9"},
		{zeros + zeros, zeros + zeros + zeros + zeros, zeros},
		{zeros + s, hex.EncodeToString([]byte(ietf)), s},
		{s + zeros, hex.EncodeToString([]byte(ietf)), "f3477e7cd95417af89a6b8794c310cf0"},
		{"1c9240a5eb55d38af333888604f6b5f0473917c1402b80099dca5cbc207075c0", hex.EncodeToString([]byte(brillig)), "4541669a7eaaee61e708dc7cbcc5eb62"},
		{"02" + zeros[2:] + zeros, "ffffffffffffffffffffffffffffffff", "03" + zeros[2:]},
		{"02" + zeros[2:] + "ffffffffffffffffffffffffffffffff", "02" + zeros[2:], "03" + zeros[2:]},
		{"01" + zeros[2:] + zeros, "fffffffffffffffffffffffffffffffff0ffffffffffffffffffffffffffffff11" + zeros[2:], "05" + zeros[2:]},
		{"01" + zeros[2:] + zeros, "fffffffffffffffffffffffffffffffffbfefefefefefefefefefefefefefefe01010101010101010101010101010101", zeros},
		{"02" + zeros[2:] + zeros, "fdffffffffffffffffffffffffffffff", "faffffffffffffffffffffffffffffff"},
		{"01000000000000000400000000000000" + zeros, ten + "01" + zeros[2:], "14000000000000005500000000000000"},
		{"01000000000000000400000000000000" + zeros, ten, "13" + zeros[2:]},
	} {
		check(t, [32]byte(unhex(t, x.key)), unhex(t, x.text), [16]byte(unhex(t, x.want)))
	}
}

// Of another implementation, for keys whose bytes all differ and for keys of ones.
func TestTagOfKnownBytes(t *testing.T) {
	for _, x := range []struct {
		key  [32]byte
		b    []byte
		want string
	}{
		{unlike(), nil, "5b80a5caef14395e83a8cdf2173c6186"},
		{unlike(), some(1), "608bd51ffab0fd4792d825701a004e98"},
		{unlike(), some(15), "7705883a381fad607fa3faaa2d0ee728"},
		{unlike(), some(16), "4e5427f2eb4f56bc42e34214d2afe7ca"},
		{unlike(), some(17), "c1b98e6cb96c2efd4330c8331233e413"},
		{unlike(), some(31), "9bfe3da65fc0e2f51b1c0f66c5ba49df"},
		{unlike(), some(32), "32f5ab8e6f34b612c326891fe9c2c331"},
		{unlike(), some(33), "d87c34d9fa4964b92e35fdc5c2a6d36f"},
		{unlike(), some(47), "708ce03109831d92f141b6ef15a80576"},
		{unlike(), some(48), "c72a1d4b753a1b707c1762f9b816f978"},
		{unlike(), some(49), "b27f3bdbfd3538da212f2a30f57455e2"},
		{unlike(), some(1000), "bff98e50e1b4c98592c7bd952b8273df"},
		{unlike(), some(65537), "e04a21a55908514b46e117ffd4142c35"},
		{ones(), full(1), "23feffef23f8ffef23f8ffef23f8ffef"},
		{ones(), full(16), "fbffff17faffff17faffff17faffff17"},
		{ones(), full(17), "7cfe7ff768f81f2763f8bf565df85f86"},
		{ones(), full(160), "99514d0a5a9b209c6a3dd0a4f64d95ae"},
		{unlike(), make([]byte, 1), "608bd51ffab0fd4792d825701a004e98"},
		{unlike(), make([]byte, 2), "ef87b0fa441fd5226db7fd4a953e2573"},
		{unlike(), make([]byte, 15), "d76ab28d25b94b9a31c5d0e77fd26891"},
		{unlike(), make([]byte, 16), "65fc8fd7b24add70bf56eaf50ca4f78d"},
		{unlike(), make([]byte, 17), "e1a93fd8833dd5e6efe683ecdfea7043"},
		{unlike(), make([]byte, 18), "70a61ab3ceabacc1cac55bc75a29481e"},
		{unlike(), make([]byte, 32), "eb1afa8f3cd7b40f1d654872d28e1a39"},
	} {
		check(t, x.key, x.b, [16]byte(unhex(t, x.want)))
	}
}

func TestTagOfEachLength(t *testing.T) {
	for _, key := range [][32]byte{unlike(), ones(), keyOf(big.NewInt(1), new(big.Int)), keyOf(big.NewInt(2), power(128, -1))} {
		for n := range 200 {
			check(t, key, some(n), tag(key, some(n)))
			check(t, key, full(n), tag(key, full(n)))
			check(t, key, make([]byte, n), tag(key, make([]byte, n)))
		}
		check(t, key, some(1<<20+5), tag(key, some(1<<20+5)))
	}
}

// Zero bytes at the end count, also those that a shorter last block could be filled up with.
func TestTagOfBytesThatEndInZeros(t *testing.T) {
	for _, begin := range [][]byte{{}, some(7), some(16), some(21)} {
		seen := map[[16]byte]int{}
		for n := range 40 {
			b := append(bytes.Clone(begin), make([]byte, n)...)
			got := poly.Tag(unlike(), b)
			if other, ok := seen[got]; ok {
				t.Errorf("%d bytes, and %d or %d zeros: %x", len(begin), other, n, got)
			}
			seen[got] = n
			check(t, unlike(), b, tag(unlike(), b))
			// The 1 that is appended is not a byte of the block.
			one := append(b, 1)
			if poly.Tag(unlike(), one) == got {
				t.Errorf("%d bytes, %d zeros, and a 1", len(begin), n)
			}
		}
	}
}

func TestEachByteHasItsPlaceInTheBlock(t *testing.T) {
	// With an r of 1 the tag of one block is its number, as the part of 2^128 does not show.
	one := keyOf(big.NewInt(1), new(big.Int))
	for n := 1; n <= 16; n++ {
		b := some(n + 3)[3:]
		want := [16]byte{}
		copy(want[:], b)
		if n < 16 {
			want[n] = 1
		}
		check(t, one, b, want)
	}
	for i := range 128 {
		var b [16]byte
		b[i/8] = 1 << (i % 8)
		check(t, one, b[:], b)
	}
}

func TestTagOfEachBitOfTheKey(t *testing.T) {
	for _, n := range []int{5, 16, 37} {
		b := some(n + 1)[1:]
		want := poly.Tag(unlike(), b)
		for i := range 256 {
			key := unlike()
			key[i/8] ^= 1 << (i % 8)
			got := poly.Tag(key, b)
			if cleared := i < 128 && !kept(i); cleared != (got == want) {
				t.Errorf("bit %d, %d bytes: %x", i, n, got)
			}
			check(t, key, b, tag(key, b))
		}
	}
	for i := range 128 {
		if r := power(uint(i), 0); kept(i) {
			// One block of zeros is 2^128.
			x := new(big.Int).Lsh(r, 128)
			check(t, keyOf(r, new(big.Int)), make([]byte, 16), number16(x.Mod(x, modulus)))
		}
	}
}

func TestTagOfMany(t *testing.T) {
	r := rand.New(rand.NewSource(2))
	for range 5000 {
		key := [32]byte(random(r, 32))
		b := random(r, r.Intn(100))
		for i := range b {
			if r.Intn(3) == 0 {
				b[i] = byte(-r.Intn(2))
			}
		}
		check(t, key, b, tag(key, b))
	}
}

// aimed are blocks for which the sum for r is target: the last one is chosen for those before it. Few blocks with a small
// r do not come to each target.
func aimed(random *rand.Rand, r, target *big.Int, blocks int) []byte {
	// What the sum must be ahead of the last product.
	want := new(big.Int).ModInverse(r, modulus)
	want.Mul(want, target)
	for range 40 {
		b := make([]byte, 16*(blocks-1))
		random.Read(b)
		x := new(big.Int).Sub(want, sum(r, b))
		x.Sub(x, power(128, 0))
		x.Mod(x, modulus)
		if x.BitLen() <= 128 {
			last := number16(x)
			return append(b, last[:]...)
		}
	}
	return nil
}

// Sums that are next to the modulus, to 0, to 2^128 and to 2^129: modulo the modulus, however they come about.
func TestSumsAtTheEdges(t *testing.T) {
	random := rand.New(rand.NewSource(3))
	factors := []*big.Int{big.NewInt(1), big.NewInt(2), big.NewInt(3), clamped(ones()), clamped(unlike()), power(124, -1), power(26, -1), big.NewInt(5)}
	var targets []*big.Int
	for i := range int64(12) {
		targets = append(targets, big.NewInt(i), new(big.Int).Sub(modulus, big.NewInt(i+1)))
		targets = append(targets, power(128, i-6), power(129, i-6), new(big.Int).Sub(modulus, power(128, i-6)))
		targets = append(targets, power(26, i-6), power(52, i-6), power(78, i-6), power(104, i-6))
	}
	for _, r := range factors {
		// Only bits that an r may have.
		r = clamped(keyOf(r, new(big.Int)))
		hits := 0
		for _, target := range targets {
			for blocks := 2; blocks <= 4; blocks++ {
				b := aimed(random, r, target, blocks)
				if b == nil {
					continue
				}
				hits++
				for _, s := range []*big.Int{new(big.Int), number(some(19)[3:]), power(128, -1), new(big.Int).Neg(target)} {
					key := keyOf(r, s)
					check(t, key, b, number16(new(big.Int).Add(target, number(key[16:]))))
				}
			}
		}
		if hits < len(targets) {
			t.Errorf("r %x: only %d of %d targets", r, hits, 3*len(targets))
		}
	}
}

// With an r of 1 nothing is subtracted before the end: the modulus is subtracted once from it on, and not below it.
func TestTheModulusIsSubtractedOnce(t *testing.T) {
	one := keyOf(big.NewInt(1), new(big.Int))
	for i := int64(-20); i < 40; i++ {
		// Three blocks have 3 * 2^128, and the first one the rest of 2^130 - 5 + i.
		rest := power(128, i-5)
		for _, part := range []int64{0, 1, 64, 1 << 40} {
			first, second := number16(new(big.Int).Sub(rest, big.NewInt(part+64))), number16(big.NewInt(part))
			third := number16(big.NewInt(64))
			b := slices.Concat(first[:], second[:], third[:])
			x := power(130, i-5)
			if i >= 0 {
				x = big.NewInt(i)
			}
			check(t, one, b, number16(x))
		}
	}
}

func TestTagOfSmallFactors(t *testing.T) {
	b := some(16)
	// An r of 0 keeps s, of 1 the number itself, of 2 twice of it.
	check(t, keyOf(new(big.Int), power(127, 9)), b, number16(power(127, 9)))
	check(t, keyOf(big.NewInt(1), new(big.Int)), b, [16]byte(b))
	twice := new(big.Int).Lsh(number(b), 1)
	check(t, keyOf(big.NewInt(2), new(big.Int)), b, number16(twice))
	// 2 * (2^129 - 1) is 2^130 - 2: 3 above the modulus.
	check(t, keyOf(big.NewInt(2), new(big.Int)), full(16), [16]byte{3})
	// 2^128 + 2^128 + 2^129 - 1 is 2^130 - 1: 4 above the modulus.
	check(t, keyOf(big.NewInt(1), new(big.Int)), append(make([]byte, 32), full(16)...), [16]byte{4})
}

func TestSumsWithTheSecondHalfPass(t *testing.T) {
	h := number(some(19)[3:])
	block := number16(h)
	for _, x := range []struct{ s, want *big.Int }{
		{new(big.Int), h},
		{big.NewInt(1), new(big.Int).Add(h, big.NewInt(1))},
		{new(big.Int).Neg(h), new(big.Int)},
		{new(big.Int).Sub(big.NewInt(-1), h), power(128, -1)},
		{new(big.Int).Sub(big.NewInt(1), h), big.NewInt(1)},
		{power(128, -1), new(big.Int).Sub(h, big.NewInt(1))},
		{power(127, 0), new(big.Int).Xor(h, power(127, 0))},
		{power(64, 0), new(big.Int).Add(h, power(64, 0))},
		{power(64, -1), new(big.Int).Add(h, power(64, -1))},
	} {
		check(t, keyOf(big.NewInt(1), x.s), block[:], number16(x.want))
	}
	// Carried through all bits: 2^128 - 1 and 1.
	check(t, keyOf(big.NewInt(1), big.NewInt(1)), full(16), [16]byte{})
	check(t, keyOf(big.NewInt(1), power(128, -1)), full(16), number16(power(128, -2)))
}

func TestEqual(t *testing.T) {
	for _, a := range [][16]byte{{}, [16]byte(some(16)), [16]byte(full(16)), poly.Clamp(unlike())} {
		if !poly.Equal(a, a) {
			t.Errorf("%x is not itself", a)
		}
		for i := range 128 {
			b := a
			b[i/8] ^= 1 << (i % 8)
			if poly.Equal(a, b) || poly.Equal(b, a) {
				t.Errorf("%x and %x", a, b)
			}
			// The same difference in another byte, so that neither xor nor sum hides both.
			for j := i + 8; j < 128; j += 8 {
				c := b
				c[j/8] ^= 1 << (j % 8)
				if poly.Equal(a, c) || poly.Equal(c, a) {
					t.Errorf("%x and %x", a, c)
				}
			}
		}
	}
	// Bytes that are the same in another order.
	a := [16]byte(some(16))
	b := a
	slices.Reverse(b[:])
	if poly.Equal(a, b) {
		t.Error("the order is not looked at")
	}
}

// P3.3

func TestAnotherSecondHalf(t *testing.T) {
	r := rand.New(rand.NewSource(4))
	for range 2000 {
		b := random(r, r.Intn(70))
		one, two := [32]byte(random(r, 32)), [32]byte(random(r, 32))
		copy(two[:16], one[:16])
		x, y := poly.Tag(one, b), poly.Tag(two, b)
		tags := new(big.Int).Sub(number(x[:]), number(y[:]))
		halves := new(big.Int).Sub(number(one[16:]), number(two[16:]))
		if number16(tags) != number16(halves) {
			t.Fatalf("%x, %x, %x: %x %x", one, two, b, x, y)
		}
	}
}

func TestTagForAnREqualTo0(t *testing.T) {
	r := rand.New(rand.NewSource(5))
	var cleared [32]byte
	for i := range 128 {
		if !kept(i) {
			cleared[i/8] |= 1 << (i % 8)
		}
	}
	for range 200 {
		b := random(r, r.Intn(200))
		zero := [32]byte{}
		check(t, zero, b, [16]byte{})
		copy(zero[16:], random(r, 16))
		check(t, zero, b, [16]byte(zero[16:]))
		// The bits that are cleared do not make an r.
		copy(zero[:16], cleared[:16])
		check(t, zero, b, [16]byte(zero[16:]))
	}
}

// Rules 3, 4 and 6

func TestTagChangesNoArgument(t *testing.T) {
	for _, n := range []int{0, 1, 15, 16, 17, 40} {
		all := append(some(n), bytes.Repeat([]byte{0xee}, 40)...)
		before := bytes.Clone(all)
		key := unlike()
		want := tag(unlike(), some(n))
		if got := poly.Tag(key, all[:n]); got != want {
			t.Errorf("%d bytes: %x", n, got)
		}
		poly.Clamp(key)
		if !bytes.Equal(all, before) || key != unlike() {
			t.Errorf("%d bytes: an argument was written", n)
		}
		if got := poly.Tag(key, all[:n:n]); got != want {
			t.Errorf("%d bytes without spare capacity: %x", n, got)
		}
		if got := poly.Tag(key, all[:n]); got != want {
			t.Errorf("%d bytes, asked again: %x", n, got)
		}
	}
	// Bytes inside of others.
	around := some(100)
	check(t, unlike(), around[30:53], tag(unlike(), bytes.Clone(around[30:53])))
}

func TestTagOfNilAndOfEmptyAreTheSame(t *testing.T) {
	for _, key := range [][32]byte{{}, unlike(), ones()} {
		want := [16]byte(key[16:])
		for _, b := range [][]byte{nil, {}, make([]byte, 0, 9), some(70)[:0]} {
			check(t, key, b, want)
		}
	}
}
