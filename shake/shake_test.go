package shake_test

import (
	"bytes"
	"crypto/hkdf"
	"crypto/hmac"
	"crypto/sha256"
	"encoding/binary"
	"encoding/hex"
	"math"
	"math/rand"
	"slices"
	"testing"

	"drawbridge/api"
	"drawbridge/packet"
	"drawbridge/shake"
)

// The second reading of the chapter, by the library's HMAC and HKDF.

// markOf is the chapter's sentence about a mark.
func markOf(key [32]byte, text string, b ...[]byte) [16]byte {
	h := hmac.New(sha256.New, key[:])
	h.Write([]byte(text))
	for _, p := range b {
		h.Write(p)
	}
	return [16]byte(h.Sum(nil)[:16])
}

func helloMark(key [32]byte, peer uint32, random [16]byte) [16]byte {
	return markOf(key, "hello", binary.BigEndian.AppendUint32(nil, peer), random[:])
}

// answerMark is of the Peer and the Random of the hello, and of what the answer has.
func answerMark(key [32]byte, peer uint32, first [16]byte, session uint64, epoch uint32, second [16]byte) [16]byte {
	b := binary.BigEndian.AppendUint32(nil, peer)
	b = append(b, first[:]...)
	b = binary.BigEndian.AppendUint64(b, session)
	b = binary.BigEndian.AppendUint32(b, epoch)
	return markOf(key, "answer", append(b, second[:]...))
}

// secretOf is the chapter's sentence about the secret of two Randoms and a Session.
func secretOf(key [32]byte, first, second [16]byte, session uint64) [32]byte {
	info := binary.BigEndian.AppendUint64([]byte("secret"), session)
	b, err := hkdf.Key(sha256.New, key[:], append(bytes.Clone(first[:]), second[:]...), string(info), 32)
	if err != nil {
		panic(err)
	}
	return [32]byte(b)
}

// helloOf is the hello that the chapter tells.
func helloOf(key [32]byte, peer int, random [16]byte) api.Packet {
	return api.Packet{Kind: 1, Peer: peer, Random: random, Mark: helloMark(key, uint32(peer), random)}
}

// answerOf is the answer that the chapter tells.
func answerOf(key [32]byte, h api.Packet, session uint64, epoch uint32, random [16]byte) api.Packet {
	mark := answerMark(key, uint32(h.Peer), h.Random, session, epoch, random)
	return api.Packet{Kind: 2, Session: session, Epoch: epoch, Random: random, Mark: mark}
}

// faultOfHello is the error of CheckHello.
func faultOfHello(key [32]byte, h api.Packet) api.Errno {
	switch {
	case packet.Check(h) != api.OK:
		return packet.Check(h)
	case h.Kind != 1:
		return api.ErrArg
	case h.Mark != helloMark(key, uint32(h.Peer), h.Random):
		return api.ErrTag
	}
	return api.OK
}

// faultOfAnswer is the error of CheckAnswer.
func faultOfAnswer(key [32]byte, h, a api.Packet) api.Errno {
	switch {
	case faultOfHello(key, h) != api.OK:
		return faultOfHello(key, h)
	case packet.Check(a) != api.OK:
		return packet.Check(a)
	case a.Kind != 2:
		return api.ErrArg
	case a.Mark != answerMark(key, uint32(h.Peer), h.Random, a.Session, a.Epoch, a.Random):
		return api.ErrTag
	}
	return api.OK
}

// Keys and packets

// unlike is a key whose bytes all differ.
func unlike() (key [32]byte) {
	for i := range key {
		key[i] = byte(i*37 + 11)
	}
	return key
}

// ones is a key of ff alone.
func ones() [32]byte {
	return [32]byte(bytes.Repeat([]byte{0xff}, 32))
}

// bytes16 are sixteen bytes that all differ, from x on.
func bytes16(x byte) (a [16]byte) {
	for i := range a {
		a[i] = x + byte(i)
	}
	return a
}

// some are n bytes, any 251 of which in a row differ.
func some(n int) []byte {
	b := make([]byte, n)
	for i := range b {
		b[i] = byte(i % 251)
	}
	return b
}

func unhex(t *testing.T, s string) []byte {
	t.Helper()
	b, err := hex.DecodeString(s)
	if err != nil {
		t.Fatal(err)
	}
	return b
}

// nothing reports whether p is the zero packet, without any memory.
func nothing(p api.Packet) bool {
	return packet.Same(p, api.Packet{}) && p.Body == nil
}

// known are handshakes, with the bytes that another implementation made of them.
func known() []handshake {
	ff := [16]byte(bytes.Repeat([]byte{0xff}, 16))
	return []handshake{
		{[32]byte{7}, 3, [16]byte{1}, 9, 2, [16]byte{2},
			"278136341fa6801b653eccea8465284a", "be3b072a984f51eec0980de9d0e637b7",
			"12d03fe628e42c26ef1566be9b4d90d6cf63be9f9d4fefa79e9e2ddb9d44e806"},
		{[32]byte{}, 1, [16]byte{}, 1, 1, [16]byte{},
			"5142be174b2bc9f6df8119d06cc6dd89", "31dfc622ff5392dc8078872ae1497304",
			"a83866c0acca1bcb7102098e0ba1849eca706009a961e118b1bc2652f8efe36d"},
		{unlike(), 300, bytes16(1), 0x0102030405060708, 0x090a0b0c, bytes16(100),
			"e5d92af889130eeea0de618a79a944c3", "4d15133819db26293252715f01c2a182",
			"953e1bdadf9a84d09d8f2d6b8642dcdb83cfb18b6c8b4dff2c5d46be3c8b3b1d"},
		{unlike(), 65536, bytes16(200), math.MaxUint64, math.MaxUint32, bytes16(240),
			"ceec94ae88596b24cdf4a23390294238", "2ff2a76487ba018c1b33ac6e0c451399",
			"38a70c58c1fa5752c5e2de8d5e6739b5326722cd07b5a57c5b3c56d9e4ec11e9"},
		{ones(), 65535, ff, 1<<32 + 2, 1, [16]byte{},
			"a691504ed69931e4491437f1d6005bdc", "7f2cce7a7187ed260ab7eadb32bda6ef",
			"f0c704ed0beb565dee7a808ea239b0dd8ce61703848f869e2b843f8edae8f99e"},
		{unlike(), 1, bytes16(1), 1 << 63, 1 << 31, bytes16(1),
			"1f52d63f39a1a20d822c96d89da73b53", "49ab3d6d31353be55bb5b7a0790a1dec",
			"00706bf21717d9dbfa4670be174d9c9e0f14e4cfdde78f73738f7bb8a65cf55f"},
	}
}

// handshake is what both sides choose, with both marks and the secret.
type handshake struct {
	key           [32]byte
	peer          int
	first         [16]byte
	session       uint64
	epoch         uint32
	second        [16]byte
	hello, answer string
	secret        string
}

// packets are the hello and the answer, with the marks that are known.
func (x handshake) packets(t *testing.T) (api.Packet, api.Packet) {
	t.Helper()
	h := api.Packet{Kind: 1, Peer: x.peer, Random: x.first, Mark: [16]byte(unhex(t, x.hello))}
	a := api.Packet{Kind: 2, Session: x.session, Epoch: x.epoch, Random: x.second, Mark: [16]byte(unhex(t, x.answer))}
	return h, a
}

// others are packets of each kind, valid or not, that are no hello and no answer of what is known.
func others() []api.Packet {
	return []api.Packet{
		{},
		{Kind: -1},
		{Kind: 5, Session: 1},
		{Kind: 5, Peer: 1},
		{Kind: 257, Peer: 1},
		{Kind: 1<<32 + 1, Peer: 1},
		{Kind: 1<<32 + 2, Session: 1, Epoch: 1},
		{Kind: math.MinInt, Peer: math.MinInt, Session: math.MaxUint64, Epoch: math.MaxUint32, Count: math.MaxUint64, Random: bytes16(1), Mark: bytes16(2), Body: some(99)},
		{Kind: 1},
		{Kind: 1, Peer: -1},
		{Kind: 1, Peer: 1},
		{Kind: 1, Peer: 65537},
		{Kind: 1, Peer: 300, Random: bytes16(1), Mark: bytes16(7)},
		{Kind: 1, Peer: 300, Session: 1, Random: bytes16(1)},
		{Kind: 2},
		{Kind: 2, Session: 1},
		{Kind: 2, Epoch: 1},
		{Kind: 2, Session: 1, Epoch: 1},
		{Kind: 2, Session: 9, Epoch: 2, Random: bytes16(3), Mark: bytes16(7)},
		{Kind: 2, Peer: 1, Session: 1, Epoch: 1},
		{Kind: 3, Session: 1, Epoch: 1, Count: 1},
		{Kind: 3, Session: 1, Epoch: 1, Count: 1, Body: some(15)},
		{Kind: 3, Session: 1, Epoch: 1, Count: 1, Body: some(16)},
		{Kind: 3, Session: 300, Epoch: 70000, Count: 1 << 60, Body: some(65552)},
		{Kind: 3, Session: 300, Epoch: 70000, Count: 1 << 60, Body: some(65553)},
		{Kind: 4},
		{Kind: 4, Session: 5},
		{Kind: 4, Session: math.MaxUint64},
	}
}

// changed are packets, valid or not, each of which differs from p in one field.
func changed(p api.Packet) []api.Packet {
	var all []api.Packet
	change := func(f func(*api.Packet)) {
		q := p
		f(&q)
		if !packet.Same(p, q) {
			all = append(all, q)
		}
	}
	for _, x := range []int{math.MinInt, math.MinInt32, -65536, -1, 0, 1, 2, 3, 4, 5, 255, 256, 257, 258, 65535, 65536, 65537, 1 << 31, 1 << 32, 1<<32 + 1, math.MaxInt} {
		change(func(q *api.Packet) { q.Kind = x })
		change(func(q *api.Packet) { q.Peer = x })
	}
	for i := range 64 {
		change(func(q *api.Packet) { q.Session ^= 1 << i })
		change(func(q *api.Packet) { q.Count ^= 1 << i })
		change(func(q *api.Packet) { q.Peer ^= 1 << i })
		change(func(q *api.Packet) { q.Epoch ^= 1 << (i % 32) })
	}
	for i := range 128 {
		change(func(q *api.Packet) { q.Random[i/8] ^= 1 << (i % 8) })
		change(func(q *api.Packet) { q.Mark[i/8] ^= 1 << (i % 8) })
	}
	change(func(q *api.Packet) { q.Session = 0 })
	change(func(q *api.Packet) { q.Epoch = 0 })
	change(func(q *api.Packet) { q.Mark = [16]byte{} })
	change(func(q *api.Packet) { q.Random = [16]byte{} })
	for _, n := range []int{1, 15, 16, 17, 65552, 65553} {
		change(func(q *api.Packet) { q.Body = some(n) })
	}
	return all
}

// Examples

func TestExamples(t *testing.T) {
	h, e := shake.Hello(unlike(), 300, bytes16(1))
	if e != api.OK {
		t.Fatal(e)
	}
	a, one, e := shake.Answer(unlike(), h, 9, 2, bytes16(2))
	if e != api.OK {
		t.Fatal(e)
	}
	if two, e := shake.CheckAnswer(unlike(), h, a); two != one || one == ([32]byte{}) || e != api.OK {
		t.Errorf("%x %d and not %x", two, e, one)
	}
	if e := shake.CheckHello(ones(), h); e != api.ErrTag {
		t.Error(e)
	}
}

// P10.1: Mark

// The marks are those of another implementation.
func TestMarkOfKnownBytes(t *testing.T) {
	for _, x := range []struct {
		key  [32]byte
		text string
		b    [][]byte
		want string
	}{
		{[32]byte{}, "", nil, "b613679a0814d9ec772f95d778c35fc5"},
		{unlike(), "", [][]byte{nil, {}}, "e3279c67c8054565b682cc037bb2d845"},
		{unlike(), "hello", nil, "77bf2ff50486a9d2e8c24b56bd4584e9"},
		{unlike(), "a", [][]byte{{'b'}}, "4793d0b7548c0b5c59212e4589387f69"},
		{unlike(), "\u00e9\u4e16", [][]byte{{0}, {255}}, "440065b79dbeb1d4d887535c76753345"},
		{ones(), "\xff\xfe\x00", [][]byte{bytes.Repeat([]byte("x"), 60), bytes.Repeat([]byte("x"), 40)}, "4f0a4fa1e6d19b23f383e1d4cfa07745"},
	} {
		if got := shake.Mark(x.key, x.text, x.b...); hex.EncodeToString(got[:]) != x.want {
			t.Errorf("%x %q %x: %x and not %s", x.key, x.text, x.b, got, x.want)
		}
	}
}

func TestMarkOfEachLength(t *testing.T) {
	for n := range 300 {
		for _, m := range []int{0, 1, 5, 63, 64, 65, 200} {
			text, b := string(some(n)), some(m)
			want := markOf(unlike(), text, b)
			if got := shake.Mark(unlike(), text, b); got != want {
				t.Fatalf("%d and %d bytes: %x and not %x", n, m, got, want)
			}
		}
	}
}

// It does not matter how the bytes are split, nor where the text ends.
func TestMarkOfPieces(t *testing.T) {
	all := some(40)
	want := shake.Mark(unlike(), string(all))
	if want != markOf(unlike(), "", all) {
		t.Errorf("%x", want)
	}
	for i := range len(all) + 1 {
		for j := i; j <= len(all); j++ {
			for _, got := range [][16]byte{
				shake.Mark(unlike(), string(all[:i]), all[i:j], all[j:]),
				shake.Mark(unlike(), "", all[:i], nil, all[i:j], []byte{}, all[j:]),
				shake.Mark(unlike(), string(all[:j]), nil, all[j:], nil),
			} {
				if got != want {
					t.Fatalf("%d %d: %x and not %x", i, j, got, want)
				}
			}
		}
	}
	var single [][]byte
	for i := range all {
		single = append(single, all[i:i+1])
	}
	if got := shake.Mark(unlike(), "", single...); got != want {
		t.Errorf("%x and not %x", got, want)
	}
}

// Each bit of the key, the text and the bytes counts, and their order.
func TestMarkOfChangedBits(t *testing.T) {
	want := shake.Mark(unlike(), "text", some(70))
	seen := map[[16]byte]int{want: -1}
	check := func(i int, got [16]byte) {
		t.Helper()
		if j, there := seen[got]; there {
			t.Fatalf("%d and %d: %x", i, j, got)
		}
		seen[got] = i
	}
	for i := range 256 {
		key := unlike()
		key[i/8] ^= 1 << (i % 8)
		check(i, shake.Mark(key, "text", some(70)))
	}
	for i := range 8 * 70 {
		b := some(70)
		b[i/8] ^= 1 << (i % 8)
		check(1000+i, shake.Mark(unlike(), "text", b))
	}
	for i := range 8 * 4 {
		text := []byte("text")
		text[i/8] ^= 1 << (i % 8)
		check(2000+i, shake.Mark(unlike(), string(text), some(70)))
	}
	check(3000, shake.Mark(unlike(), "text", some(70)[35:], some(35)))
	check(3001, shake.Mark(unlike(), "text", some(70), []byte{0}))
	check(3002, shake.Mark(unlike(), "text", some(69)))
	check(3003, shake.Mark(unlike(), "", some(70), []byte("text")))
}

// P10.2: Secret

// The secrets are those of another implementation.
func TestSecretOfKnownBytes(t *testing.T) {
	for _, x := range known() {
		h, a := x.packets(t)
		if got := shake.Secret(x.key, h, a); hex.EncodeToString(got[:]) != x.secret {
			t.Errorf("%v: %x", x, got)
		}
	}
}

// Whatever the packets are: it is that of both Randoms and the Session.
func TestSecretOfAnyPackets(t *testing.T) {
	all := others()
	for _, x := range known() {
		h, a := x.packets(t)
		all = append(all, h, a)
	}
	for _, h := range all {
		for _, a := range all {
			for _, key := range [][32]byte{{}, unlike(), ones()} {
				if got, want := shake.Secret(key, h, a), secretOf(key, h.Random, a.Random, a.Session); got != want {
					t.Fatalf("%v %v: %x and not %x", h, a, got, want)
				}
			}
		}
	}
}

func TestSecretOfChangedFields(t *testing.T) {
	for _, x := range known() {
		h, a := x.packets(t)
		was := shake.Secret(x.key, h, a)
		for _, q := range changed(h) {
			if got := shake.Secret(x.key, q, a); got != secretOf(x.key, q.Random, a.Random, a.Session) || (got == was) != (q.Random == h.Random) {
				t.Fatalf("%v: %x", q, got)
			}
		}
		for _, q := range changed(a) {
			if got := shake.Secret(x.key, h, q); got != secretOf(x.key, h.Random, q.Random, q.Session) || (got == was) != (q.Random == a.Random && q.Session == a.Session) {
				t.Fatalf("%v: %x", q, got)
			}
		}
	}
}

// Rules 3 and 4

// ruined is what stands behind the bytes that are passed.
const ruined = 0xee

// roomy is b with spare capacity, and all memory of that.
func roomy(b []byte) ([]byte, []byte) {
	all := append(bytes.Clone(b), bytes.Repeat([]byte{ruined}, 100)...)
	return all[:len(b)], all
}

// Neither pieces nor what is behind them is changed.
func TestMarkChangesNothing(t *testing.T) {
	for n := range 100 {
		one, all := roomy(some(n))
		two, rest := roomy(some(100 - n))
		was, then := bytes.Clone(all), bytes.Clone(rest)
		pieces := make([][]byte, 0, 9)
		pieces = append(pieces, one, two, one)
		key := unlike()
		got := shake.Mark(key, "text", pieces[:2]...)
		if got != markOf(unlike(), "text", some(n), some(100-n)) {
			t.Fatalf("%d: %x", n, got)
		}
		if key != unlike() || !bytes.Equal(all, was) || !bytes.Equal(rest, then) {
			t.Fatalf("%x %x", all, rest)
		}
		if &pieces[2][:1][0] != &all[0] || slices.ContainsFunc(pieces[3:9], func(p []byte) bool { return p != nil }) {
			t.Fatalf("%x", pieces[:9])
		}
	}
}

func TestNoPacketIsChanged(t *testing.T) {
	for _, p := range append(others(), helloOf(unlike(), 300, bytes16(1))) {
		for _, q := range others() {
			var left, right []byte
			h, a := p, q
			h.Body, left = roomy(p.Body)
			a.Body, right = roomy(q.Body)
			was, then := bytes.Clone(left), bytes.Clone(right)
			shake.CheckHello(unlike(), h)
			shake.Secret(unlike(), h, a)
			shake.CheckAnswer(unlike(), h, a)
			shake.Answer(unlike(), h, 1, 1, a.Random)
			if !packet.Same(h, p) || !packet.Same(a, q) || !bytes.Equal(left, was) || !bytes.Equal(right, then) {
				t.Fatalf("%v %v", h, a)
			}
		}
	}
}

func TestNilAndEmptyAreTheSame(t *testing.T) {
	h := helloOf(unlike(), 300, bytes16(1))
	a := answerOf(unlike(), h, 9, 2, bytes16(2))
	want := secretOf(unlike(), bytes16(1), bytes16(2), 9)
	for _, body := range [][]byte{nil, {}, make([]byte, 0, 9), some(70)[:0]} {
		h.Body, a.Body = body, body
		if e := shake.CheckHello(unlike(), h); e != api.OK {
			t.Error(e)
		}
		if got, secret, e := shake.Answer(unlike(), h, 9, 2, bytes16(2)); !packet.Same(got, a) || cap(got.Body) != 0 || secret != want || e != api.OK {
			t.Errorf("%v %x %d", got, secret, e)
		}
		if secret, e := shake.CheckAnswer(unlike(), h, a); secret != want || e != api.OK {
			t.Errorf("%x %d", secret, e)
		}
	}
	if shake.Mark(unlike(), "a", nil) != shake.Mark(unlike(), "a", []byte{}) || shake.Mark(unlike(), "a") != shake.Mark(unlike(), "a", some(70)[:0]) {
		t.Error("marks")
	}
}

// Rule 6: what was asked before does not matter.
func TestSameAnswersAgain(t *testing.T) {
	r := rand.New(rand.NewSource(101))
	first := known()
	for range 200 {
		x := first[r.Intn(len(first))]
		h, a := x.packets(t)
		if got, e := shake.Hello(x.key, x.peer, x.first); !packet.Same(got, h) || e != api.OK {
			t.Fatalf("%v %d", got, e)
		}
		got, secret, e := shake.Answer(x.key, h, x.session, x.epoch, x.second)
		if !packet.Same(got, a) || hex.EncodeToString(secret[:]) != x.secret || e != api.OK {
			t.Fatalf("%v %x %d", got, secret, e)
		}
	}
}
