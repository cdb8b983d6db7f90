package poly_test

import (
	"bytes"
	"math/rand"
	"testing"

	"drawbridge/api"
	"drawbridge/poly"
)

// write appends b to the mac, which must be a valid one.
func write(t *testing.T, m *poly.Mac, b []byte) {
	t.Helper()
	if e := m.Write(b); e != api.OK {
		t.Fatal(e)
	}
}

// expect asks the mac of the key for b, twice: asking changes nothing.
func expect(t *testing.T, m *poly.Mac, key [32]byte, b []byte) {
	t.Helper()
	want := tag(key, b)
	for range 2 {
		if got := m.Tag(); got != want {
			t.Fatalf("%d bytes: %x, not %x", len(b), got, want)
		}
		if got := m.Size(); got != int64(len(b)) {
			t.Fatalf("%d bytes: size %d", len(b), got)
		}
	}
}

// P3.2

func TestMacOfNoBytes(t *testing.T) {
	for _, key := range [][32]byte{{}, unlike(), ones()} {
		m := poly.New(key)
		expect(t, m, key, nil)
		for _, b := range [][]byte{nil, {}, make([]byte, 0, 20), some(20)[:0]} {
			write(t, m, b)
			expect(t, m, key, nil)
		}
	}
}

func TestMacOfTheExample(t *testing.T) {
	key := [32]byte(unhex(t, "85d6be7857556d337f4452fe42d506a80103808afb0db2fd4abff6af4149f51b"))
	m := poly.New(key)
	for _, s := range []string{"Cryptographic", " ", "", "Forum Research Grou", "p"} {
		write(t, m, []byte(s))
	}
	if got := m.Tag(); got != [16]byte(unhex(t, "a8061dc1305136c6c22b8baf0c0127a9")) || m.Size() != 34 {
		t.Errorf("%x %d", got, m.Size())
	}
}

func TestMacIsAskedBetweenAllWrites(t *testing.T) {
	b := some(100)
	for _, key := range [][32]byte{{}, unlike(), ones()} {
		for piece := 1; piece <= 50; piece++ {
			m := poly.New(key)
			for at := 0; at < len(b); at += piece {
				expect(t, m, key, b[:at])
				write(t, m, b[at:min(at+piece, len(b))])
			}
			expect(t, m, key, b)
		}
	}
}

func TestMacOfMuch(t *testing.T) {
	b := some(1<<20 + 7)
	m := poly.New(unlike())
	write(t, m, b[:5])
	write(t, m, b[5:1<<19])
	write(t, m, b[1<<19:])
	expect(t, m, unlike(), b)
}

func TestMacsAreApart(t *testing.T) {
	one, two, three := poly.New(unlike()), poly.New(unlike()), poly.New(ones())
	var a, b, c []byte
	for i := range 60 {
		p := some(i)
		write(t, one, p)
		write(t, two, p[:i/2])
		write(t, three, p[i/3:])
		a, b, c = append(a, p...), append(b, p[:i/2]...), append(c, p[i/3:]...)
		expect(t, one, unlike(), a)
		expect(t, two, unlike(), b)
		expect(t, three, ones(), c)
	}
}

func TestInvalidMacs(t *testing.T) {
	var none *poly.Mac
	for _, m := range []*poly.Mac{none, {}, new(poly.Mac)} {
		for _, b := range [][]byte{nil, {}, some(1), some(16), some(40)} {
			if e := m.Write(b); e != api.ErrNil {
				t.Errorf("Write of %d bytes: %d", len(b), e)
			}
			if n := m.Size(); n != 0 {
				t.Errorf("Size after %d bytes: %d", len(b), n)
			}
			if got := m.Tag(); got != [16]byte{} {
				t.Errorf("Tag after %d bytes: %x", len(b), got)
			}
		}
	}
}

func TestMacOfTheZeroKeyIsValid(t *testing.T) {
	m := poly.New([32]byte{})
	write(t, m, some(20))
	if m.Size() != 20 || m.Tag() != [16]byte{} {
		t.Errorf("%d %x", m.Size(), m.Tag())
	}
}

// P3.3

func TestMacOfEachTwoSplits(t *testing.T) {
	b := some(67)
	want := tag(unlike(), b)
	for i := range len(b) + 1 {
		for j := i; j <= len(b); j++ {
			m := poly.New(unlike())
			for _, piece := range [][]byte{b[:i], nil, b[i:j], {}, b[j:]} {
				write(t, m, piece)
			}
			if got := m.Tag(); got != want || m.Size() != 67 {
				t.Fatalf("split at %d and %d: %x %d", i, j, got, m.Size())
			}
		}
	}
}

func TestMacOfAnyPieces(t *testing.T) {
	r := rand.New(rand.NewSource(6))
	for range 1000 {
		key := [32]byte(random(r, 32))
		b := random(r, r.Intn(300))
		m := poly.New(key)
		for at := 0; at < len(b); {
			n := min(r.Intn(40), len(b)-at)
			write(t, m, b[at:at+n])
			at += n
			if r.Intn(4) == 0 {
				expect(t, m, key, b[:at])
			}
		}
		expect(t, m, key, b)
		if got := poly.Tag(key, b); got != m.Tag() {
			t.Fatalf("%x %x: %x, not %x", key, b, got, m.Tag())
		}
	}
}

// Rules 3 and 7

func TestMacChangesNoArgumentAndKeepsNone(t *testing.T) {
	for _, n := range []int{1, 15, 16, 17, 31, 32, 33, 50} {
		all := append(some(n), bytes.Repeat([]byte{0xee}, 40)...)
		before := bytes.Clone(all)
		key := unlike()
		m := poly.New(key)
		clear(key[:])
		write(t, m, some(5))
		write(t, m, all[:n])
		want := append(some(5), some(n)...)
		expect(t, m, unlike(), want)
		if !bytes.Equal(all, before) {
			t.Errorf("%d bytes: an argument was written", n)
		}
		for i := range all {
			all[i] = 0x77
		}
		expect(t, m, unlike(), want)
		written := bytes.Clone(all)
		write(t, m, some(30))
		expect(t, m, unlike(), append(want, some(30)...))
		if !bytes.Equal(all, written) {
			t.Errorf("%d bytes: an argument was written later", n)
		}
	}
}

func TestMacOfOneBufferAgainAndAgain(t *testing.T) {
	m := poly.New(unlike())
	var all []byte
	buffer := make([]byte, 7)
	for i := range 30 {
		for j := range buffer {
			buffer[j] = byte(7*i + j)
		}
		write(t, m, buffer)
		all = append(all, buffer...)
	}
	expect(t, m, unlike(), all)
}
