package packet_test

import (
	"bytes"
	"crypto/hkdf"
	"crypto/sha256"
	"encoding/binary"
	"encoding/hex"
	"math"
	"math/rand"
	"testing"

	"drawbridge/aead"
	"drawbridge/api"
	"drawbridge/packet"
)

// key is the chapter's sentence about the keys, by the library's hkdf, for a way of 0 or 1.
func key(t *testing.T, secret [32]byte, epoch uint32, way byte) [32]byte {
	t.Helper()
	info := append(binary.BigEndian.AppendUint32([]byte("data"), epoch), way)
	b, err := hkdf.Key(sha256.New, secret[:], nil, string(info), 32)
	if err != nil {
		t.Fatal(err)
	}
	return [32]byte(b)
}

// seal is the chapter's sentence about the packet of sealed bytes.
func seal(t *testing.T, secret [32]byte, way byte, session uint64, epoch uint32, n uint64, plain []byte) api.Packet {
	t.Helper()
	p := api.Packet{Kind: 3, Session: session, Epoch: epoch, Count: n}
	nonce := [12]byte(binary.BigEndian.AppendUint64(binary.BigEndian.AppendUint32(nil, epoch), n))
	b, e := aead.Seal(key(t, secret, epoch, way), nonce, plain, written(p))
	if e != api.OK {
		t.Fatal(e)
	}
	p.Body = b
	return p
}

// sealed is what Seal returns where it must seal.
func sealed(t *testing.T, secret [32]byte, way int, session uint64, epoch uint32, n uint64, plain []byte) api.Packet {
	t.Helper()
	p, e := packet.Seal(secret, way, session, epoch, n, plain)
	if e != api.OK || packet.Check(p) != api.OK {
		t.Fatalf("way %d, session %d, epoch %d, number %d, %d bytes: %d", way, session, epoch, n, len(plain), e)
	}
	return p
}

// opens checks that p opens as plain.
func opens(t *testing.T, secret [32]byte, way int, p api.Packet, plain []byte) {
	t.Helper()
	if b, e := packet.Open(secret, way, p); !bytes.Equal(b, plain) || e != api.OK {
		t.Fatalf("%v: %x %d and not %x", p, b, e, plain)
	}
}

// refusedOpen checks that p does not open, and that nothing of it is told.
func refusedOpen(t *testing.T, secret [32]byte, way int, p api.Packet, want api.Errno) {
	t.Helper()
	if b, e := packet.Open(secret, way, p); len(b) != 0 || cap(b) != 0 || e != want {
		t.Fatalf("kind %d, session %d, epoch %d, count %d, %d bytes: %x %d and not %d", p.Kind, p.Session, p.Epoch, p.Count, len(p.Body), b, e, want)
	}
}

// P9.2: Key

// The keys are those of another implementation.
func TestKey(t *testing.T) {
	ones := [32]byte(bytes.Repeat([]byte{0xff}, 32))
	for _, x := range []struct {
		secret [32]byte
		epoch  uint32
		way    int
		want   string
	}{
		{[32]byte{}, 0, 0, "d54f36ef288874986ba4c58fa690aeece49ff3cc82ba06fcd4ad0fbdea36a80a"},
		{[32]byte{}, 0, 1, "ac56226039b702e0d14992eca256d809296b8e540aaecc3da70acce0b174ff36"},
		{unlike(), 1, api.ToGate, "a850e614cb95fd1e3b54c97bd94196a89c20ea3ea2d7fde3738ee3e5b750ddd3"},
		{unlike(), 1, api.ToPeer, "d13757f317299ff3d9d5fa72b576342e6744f6af3df6fbb214c56d22fadf4a00"},
		{unlike(), 0x01020304, 0, "b7e68d77adee830286478b9de1af8e00f8ac08c38c5d6d6979114bab24054e5c"},
		{unlike(), 0x01020304, 1, "64881efa9970a46bc48e12e8b91adc382b0266973aca6d4d81a40d496375b2f0"},
		{ones, math.MaxUint32, 0, "2c7ab04df76436ecfb89685a3aab7889479ae5724ea37f8b234941bda1f17f7f"},
		{ones, math.MaxUint32, 1, "bdf5f0a9621b790f6b85b3b1928bc4f60f157afd328cd7eea81d32a5b2528a20"},
		{[32]byte{1}, 2, 1, "32f32aa8e3a876011dad2d53064c097655958fa008e752fb92d4e29d81bf8a46"},
	} {
		if got := packet.Key(x.secret, x.epoch, x.way); hex.EncodeToString(got[:]) != x.want {
			t.Errorf("%x %d %d: %x", x.secret, x.epoch, x.way, got)
		}
	}
}

func TestKeyOfMany(t *testing.T) {
	r := rand.New(rand.NewSource(93))
	for i := range 2000 {
		var secret [32]byte
		r.Read(secret[:])
		epoch := r.Uint32() >> r.Intn(32)
		if got, want := packet.Key(secret, epoch, i%2), key(t, secret, epoch, byte(i%2)); got != want {
			t.Fatalf("%x %d %d: %x and not %x", secret, epoch, i%2, got, want)
		}
	}
	for i := range 32 {
		if got, want := packet.Key(unlike(), 1<<i, i%2), key(t, unlike(), 1<<i, byte(i%2)); got != want {
			t.Errorf("%d: %x and not %x", i, got, want)
		}
	}
}

// ways are even and odd ones, alternating.
func ways() [][2]int {
	return [][2]int{{0, 1}, {-2, -1}, {2, 3}, {-4, -3}, {254, 255}, {256, 257}, {-256, -255}, {510, 511}, {1 << 32, 1<<32 + 1}, {-1 << 32, -1<<32 + 1},
		{math.MinInt32, math.MaxInt32}, {math.MinInt, math.MaxInt}, {math.MinInt + 2, math.MinInt + 1}, {math.MaxInt - 1, -5}}
}

func TestWaysCountModulo2(t *testing.T) {
	even, odd := key(t, unlike(), 7, 0), key(t, unlike(), 7, 1)
	for _, x := range ways() {
		if a, b := packet.Key(unlike(), 7, x[0]), packet.Key(unlike(), 7, x[1]); a != even || b != odd {
			t.Errorf("%d: %x %x", x, a, b)
		}
		for way, w := range x {
			p := sealed(t, unlike(), w, 1, 7, 1, some(20))
			if want := seal(t, unlike(), byte(way), 1, 7, 1, some(20)); !equal(p, want) {
				t.Errorf("%d: %v", w, p)
			}
			for _, y := range ways() {
				opens(t, unlike(), y[way], p, some(20))
				refusedOpen(t, unlike(), y[1-way], p, api.ErrTag)
			}
		}
	}
}

// P9.2: Along

func TestAlong(t *testing.T) {
	for _, x := range []struct {
		p    api.Packet
		want []byte
	}{
		{api.Packet{Kind: api.PktData, Session: 1, Epoch: 2, Count: 3, Body: some(16)}, []byte{1, 3, 1, 1, 1, 2, 1, 3, 0}},
		{api.Packet{Kind: api.PktData, Session: 300, Epoch: 70000, Count: 1 << 60, Body: some(300)},
			[]byte{1, 3, 2, 1, 44, 3, 1, 17, 112, 8, 16, 0, 0, 0, 0, 0, 0, 0, 0}},
		{api.Packet{Kind: api.PktData, Session: math.MaxUint64, Epoch: math.MaxUint32, Count: 1},
			[]byte{1, 3, 8, 255, 255, 255, 255, 255, 255, 255, 255, 4, 255, 255, 255, 255, 1, 1, 0}},
	} {
		for _, n := range []int{0, 1, 15, 16, 17, 300, 65552, 65553, 1 << 17} {
			x.p.Body = some(n)
			if got := packet.Along(x.p); !bytes.Equal(got, x.want) {
				t.Errorf("%d bytes: %x and not %x", n, got, x.want)
			}
		}
	}
}

func TestAlongOfAllEdges(t *testing.T) {
	known := map[bool]int{}
	check := func(p api.Packet) {
		bare := p
		bare.Body = nil
		var want []byte
		if why := fault(p); p.Kind == 3 && (why == "" || why == "Body") {
			want = written(bare)
		}
		known[want != nil]++
		if got := packet.Along(p); !bytes.Equal(got, want) || want == nil && cap(got) != 0 {
			t.Fatalf("kind %d, peer %d, session %d, epoch %d, count %d, random %x, mark %x, %d bytes: %x and not %x",
				p.Kind, p.Peer, p.Session, p.Epoch, p.Count, p.Random, p.Mark, len(p.Body), got, want)
		}
	}
	for _, p := range edges() {
		check(p)
	}
	for _, p := range packets() {
		for _, q := range changed(p) {
			check(q)
		}
	}
	if known[true] < 100 || known[false] < 10000 {
		t.Error(known)
	}
}

// P9.2: Seal

// The sealed bytes are those of another implementation.
func TestSealOfKnownBytes(t *testing.T) {
	for _, x := range []struct {
		secret  [32]byte
		way     int
		session uint64
		epoch   uint32
		n       uint64
		plain   []byte
		want    string
	}{
		{[32]byte{1}, 1, 9, 2, 3, []byte("hello"), "1f370c0ef9708c6ddf1d5f2357f2fb9f4962a074c1"},
		{unlike(), 0, 1, 1, 1, nil, "f4f3cf3c410497eb8c029ad4c56b415c"},
		{unlike(), 1, 1, 1, 1, nil, "cd3df64c7b0056d764c2cc0fccce6944"},
		{unlike(), 0, math.MaxUint64, math.MaxUint32, 1 << 60, some(1), "f5579f98906dd64742ae48ff96130f71b4"},
		{unlike(), 1, 0x0102030405060708, 0x090a0b0c, 0x0d0e0f1011121314, some(16), "a1fec81a9ea66a79e17318e3b4a1c3e51ed81b904a11642dfa4134418ce1655c"},
		{unlike(), 0, 256, 255, 65536, some(65), "8b27507ad2be613a42111f6d98cd2015922198777fafa6f1623039c24a53fad0bbf7d2c10b2916627dacda5f0ca369ff" +
			"1d92c69950b36d0e5f1f47e249388b80bce805aa87a93397cf7143e2f22a402d67"},
	} {
		p := sealed(t, x.secret, x.way, x.session, x.epoch, x.n, x.plain)
		body, err := hex.DecodeString(x.want)
		want := api.Packet{Kind: api.PktData, Session: x.session, Epoch: x.epoch, Count: x.n, Body: body}
		if err != nil || !equal(p, want) {
			t.Errorf("%v and not %v", p, want)
		}
		opens(t, x.secret, x.way, want, x.plain)
	}
}

// The digests are those of the sealed bytes of another implementation.
func TestSealOfManyBytes(t *testing.T) {
	for _, x := range []struct {
		plain  int
		digest string
	}{
		{1000, "f7b1ea6df99a37b1f60eb5592e1eb9ab8587731fe651823fb3fc60da0afdf563"},
		{65535, "7e504f0c9ddcace759855aa2388dc4c4b44cd5f1de2323ee0c59f3dda4fdf619"},
		{65536, "65c99e7dc2d742411b4ef5db1f834614e1182df1a0069dfb87ae812d8681931d"},
	} {
		p := sealed(t, unlike(), 1, 300, 70000, 1<<40, some(x.plain))
		if got := sha256.Sum256(p.Body); hex.EncodeToString(got[:]) != x.digest || len(p.Body) != x.plain+16 {
			t.Errorf("%d bytes: %x", len(p.Body), got)
		}
		opens(t, unlike(), 1, p, some(x.plain))
	}
}

func TestSealOfMany(t *testing.T) {
	r := rand.New(rand.NewSource(94))
	for i := range 3000 {
		var secret [32]byte
		r.Read(secret[:])
		way, session, epoch, n := r.Intn(2), r.Uint64()>>r.Intn(64)|1, r.Uint32()>>r.Intn(32)|1, r.Uint64()>>(4+r.Intn(60))|1
		plain := some(i % 300)
		p := sealed(t, secret, way, session, epoch, n, plain)
		if want := seal(t, secret, byte(way), session, epoch, n, plain); !equal(p, want) {
			t.Fatalf("%v and not %v", p, want)
		}
		opens(t, secret, way, p, plain)
		b, e := packet.Bytes(p)
		if q, f := packet.Read(b); e != api.OK || f != api.OK || !equal(p, q) {
			t.Fatalf("%v: %x %d, %v %d", p, b, e, q, f)
		}
	}
}

func TestSealRefuses(t *testing.T) {
	for _, session := range []uint64{0, 1, 2, 1 << 32, math.MaxUint64} {
		for _, epoch := range []uint32{0, 1, 2, math.MaxUint32} {
			for _, n := range []uint64{0, 1, 2, 1<<60 - 1, 1 << 60, 1<<60 + 1, 1 << 61, 1 << 63, math.MaxUint64} {
				for _, size := range []int{0, 1, 16, 65536, 65537, 65552, 65553, 1 << 20} {
					want := api.OK
					if size > 65536 {
						want = api.ErrLong
					} else if session == 0 || epoch == 0 || n == 0 || n > 1<<60 {
						want = api.ErrArg
					}
					// There is no need of all that are long and sealed.
					if want == api.OK && size > 16 && n > 1 {
						continue
					}
					p, e := packet.Seal(unlike(), 1, session, epoch, n, make([]byte, size))
					if e != want || e != api.OK && !nothing(p) || e == api.OK && (!valid(p) || len(p.Body) != size+16) {
						t.Fatalf("session %d, epoch %d, number %d, %d bytes: %d and not %d", session, epoch, n, size, e, want)
					}
				}
			}
		}
	}
}

// P9.2: Open

func TestOpenRefusesWhatIsNotValid(t *testing.T) {
	good := sealed(t, unlike(), 0, 300, 70000, 1<<40, some(20))
	for _, p := range append(packets(), good) {
		for _, q := range append(changed(p), p) {
			want := api.ErrTag
			if !valid(q) || q.Kind != 3 {
				want = api.ErrArg
			}
			if equal(q, good) {
				opens(t, unlike(), 0, q, some(20))
				continue
			}
			refusedOpen(t, unlike(), 0, q, want)
		}
	}
}

// A Body that is too short or too long is not valid, ahead of the errors of aead.Open.
func TestOpenOfEachLength(t *testing.T) {
	for _, n := range []int{0, 1, 14, 15, 16, 17, 100, 65551, 65552, 65553, 65554, 1 << 20} {
		want := api.ErrTag
		if n < 16 || n > 65552 {
			want = api.ErrArg
		}
		refusedOpen(t, unlike(), 0, api.Packet{Kind: api.PktData, Session: 1, Epoch: 1, Count: 1, Body: make([]byte, n)}, want)
	}
}

func TestOpenOfOtherKinds(t *testing.T) {
	for _, p := range packets() {
		want := api.ErrArg
		if p.Kind == api.PktData {
			want = api.ErrTag
		}
		for way := range 2 {
			refusedOpen(t, unlike(), way, p, want)
		}
	}
}

// P9.3

func TestOpenOfSeal(t *testing.T) {
	for n := range 300 {
		for way := range 2 {
			p := sealed(t, unlike(), way, uint64(n+1), uint32(n*n+1), uint64(n*n*n+1), some(n))
			opens(t, unlike(), way, p, some(n))
			refusedOpen(t, unlike(), 1-way, p, api.ErrTag)
		}
	}
}

// Nothing that differs from what was sealed in one bit is opened.
func TestOpenOfChangedBits(t *testing.T) {
	for _, n := range []int{0, 5, 40} {
		p := sealed(t, unlike(), 1, 0x100000001, 0x10001, 0x10000001, some(n))
		change := func(want api.Errno, f func(*api.Packet)) {
			t.Helper()
			q := p
			q.Body = bytes.Clone(p.Body)
			f(&q)
			refusedOpen(t, unlike(), 1, q, want)
		}
		for i := range 64 {
			change(api.ErrTag, func(q *api.Packet) { q.Session ^= 1 << i })
			if i < 32 {
				change(api.ErrTag, func(q *api.Packet) { q.Epoch ^= 1 << i })
			}
			if i < 60 {
				change(api.ErrTag, func(q *api.Packet) { q.Count ^= 1 << i })
			}
		}
		for i := range 8 * len(p.Body) {
			change(api.ErrTag, func(q *api.Packet) { q.Body[i/8] ^= 1 << (i % 8) })
		}
		for i := range len(p.Body) - 16 {
			change(api.ErrTag, func(q *api.Packet) { q.Body = q.Body[:16+i] })
		}
		change(api.ErrTag, func(q *api.Packet) { q.Body = append(q.Body, 0) })
		change(api.ErrTag, func(q *api.Packet) { q.Body = q.Body[1:]; q.Body = append(q.Body, some(16)...) })
		for i := range 256 {
			other := unlike()
			other[i/8] ^= 1 << (i % 8)
			refusedOpen(t, other, 1, p, api.ErrTag)
		}
		opens(t, unlike(), 1, p, some(n))
	}
}

// used is what a key and a nonce are of.
type used struct {
	secret byte
	way    int
	epoch  uint32
	n      uint64
}

// The ciphertext of zeros is the key stream of a key and a nonce: no two are the same.
func TestNoKeyAndNonceTwice(t *testing.T) {
	seen := map[string]used{}
	check := func(u used) {
		t.Helper()
		p := sealed(t, [32]byte{u.secret}, u.way, 1, u.epoch, u.n, make([]byte, 16))
		stream := string(p.Body[:16])
		if other, there := seen[stream]; there && other != u {
			t.Fatalf("%v and %v: %x", u, other, stream)
		}
		seen[stream] = u
	}
	for secret := range byte(3) {
		for way := range 2 {
			for epoch := uint32(1); epoch < 20; epoch++ {
				for n := uint64(1); n < 20; n++ {
					check(used{secret, way, epoch, n})
				}
			}
		}
	}
	for i := range 32 {
		for j := range 60 {
			check(used{9, 0, 1 << i, 1 << j})
		}
	}
}

// Each key of a secret is of one epoch and way.
func TestNoKeyTwice(t *testing.T) {
	seen := map[[32]byte]used{}
	for secret := range byte(4) {
		for epoch := range uint32(300) {
			for way := range 2 {
				u := used{secret: secret, epoch: epoch, way: way}
				k := packet.Key([32]byte{31: secret}, epoch, way)
				if other, there := seen[k]; there {
					t.Fatalf("%v and %v", u, other)
				}
				seen[k] = u
			}
		}
	}
	for i := range 32 {
		for way := range 2 {
			k := packet.Key([32]byte{31: 9}, 1<<i, way)
			if other, there := seen[k]; there {
				t.Fatalf("%d and %v", i, other)
			}
			seen[k] = used{way: way, n: uint64(i)}
		}
	}
}

// The session is in the associated data alone: it has no part in key and nonce.
func TestSessionIsTagged(t *testing.T) {
	one, two := sealed(t, unlike(), 0, 1, 1, 1, some(50)), sealed(t, unlike(), 0, 2, 1, 1, some(50))
	if !bytes.Equal(one.Body[:50], two.Body[:50]) || bytes.Equal(one.Body[50:], two.Body[50:]) {
		t.Errorf("%x and %x", one.Body, two.Body)
	}
	one.Session = 2
	refusedOpen(t, unlike(), 0, one, api.ErrTag)
}

// Rules 3, 4 and 6

func TestSealIsNewMemory(t *testing.T) {
	for n := range 150 {
		all := append(some(n), bytes.Repeat([]byte{0xee}, 200)...)
		was := bytes.Clone(all)
		secret := unlike()
		p := sealed(t, secret, 1, 1, 1, 1, all[:n])
		again := sealed(t, secret, 1, 1, 1, 1, all[:n])
		want := seal(t, unlike(), 1, 1, 1, 1, some(n))
		if !bytes.Equal(all, was) || secret != unlike() {
			t.Fatalf("%x", all)
		}
		// Ways: no spare capacity, so that no two copies of a packet can share it.
		if cap(p.Body) != len(p.Body) {
			t.Fatalf("%d of %d bytes", len(p.Body), cap(p.Body))
		}
		ruin(all)
		ruin(again.Body)
		if !equal(p, want) {
			t.Fatalf("%v and not %v", p, want)
		}
	}
}

// What is appended to the Body of one copy is not seen behind that of another.
func TestCopiesOfAPacketShareNoRoom(t *testing.T) {
	p := sealed(t, unlike(), 1, 1, 1, 1, some(20))
	b, _ := packet.Bytes(p)
	read, _ := packet.Read(b)
	for _, p := range []api.Packet{p, read} {
		q := p
		one, two := append(p.Body, 1), append(q.Body, 2)
		if one[36] != 1 || two[36] != 2 || !equal(p, seal(t, unlike(), 1, 1, 1, 1, some(20))) {
			t.Errorf("%x %x", one, two)
		}
	}
}

func TestOpenIsNewMemory(t *testing.T) {
	for n := range 150 {
		p, all := roomy(sealed(t, unlike(), 1, 1, 1, 1, some(n)))
		was := bytes.Clone(all)
		secret := unlike()
		b, e := packet.Open(secret, 1, p)
		again, _ := packet.Open(secret, 1, p)
		if e != api.OK || !bytes.Equal(all, was) || secret != unlike() {
			t.Fatalf("%x %d", all, e)
		}
		isNew(t, b)
		ruin(all)
		ruin(again)
		if !bytes.Equal(b, some(n)) {
			t.Fatalf("%x", b)
		}
	}
}

func TestAlongIsNewMemory(t *testing.T) {
	p, all := roomy(sealed(t, unlike(), 1, 1, 1, 1, some(9)))
	was := bytes.Clone(all)
	want := []byte{1, 3, 1, 1, 1, 1, 1, 1, 0}
	one, two := packet.Along(p), packet.Along(p)
	isNew(t, one)
	ruin(one)
	if !bytes.Equal(all, was) || !bytes.Equal(two, want) || !bytes.Equal(packet.Along(p), want) {
		t.Errorf("%x %x", two, all)
	}
}

func TestSealOfNilAndEmpty(t *testing.T) {
	want := seal(t, unlike(), 1, 1, 1, 1, nil)
	for _, plain := range [][]byte{nil, {}, some(9)[:0], make([]byte, 0, 9)} {
		p := sealed(t, unlike(), 1, 1, 1, 1, plain)
		if !equal(p, want) {
			t.Errorf("%v", p)
		}
		opens(t, unlike(), 1, p, nil)
	}
}
