package shake_test

import (
	"encoding/hex"
	"math"
	"math/rand"
	"testing"

	"drawbridge/api"
	"drawbridge/packet"
	"drawbridge/shake"
)

// answers checks that Answer returns the answer and the secret of the chapter, which CheckAnswer and Secret return too.
func answers(t *testing.T, key [32]byte, h api.Packet, session uint64, epoch uint32, random [16]byte) api.Packet {
	t.Helper()
	a, secret, e := shake.Answer(key, h, session, epoch, random)
	want := answerOf(key, h, session, epoch, random)
	if !packet.Same(a, want) || a.Body != nil || secret != secretOf(key, h.Random, random, session) || e != api.OK {
		t.Fatalf("%v %x %d and not %v", a, secret, e, want)
	}
	if got, e := shake.CheckAnswer(key, h, a); got != secret || e != api.OK {
		t.Fatalf("%v: %x %d and not %x", a, got, e, secret)
	}
	if got := shake.Secret(key, h, a); got != secret {
		t.Fatalf("%v: %x and not %x", a, got, secret)
	}
	return a
}

// refusedAnswer checks that nothing is answered.
func refusedAnswer(t *testing.T, key [32]byte, h api.Packet, session uint64, epoch uint32, want api.Errno) {
	t.Helper()
	if a, secret, e := shake.Answer(key, h, session, epoch, bytes16(5)); !nothing(a) || secret != ([32]byte{}) || e != want {
		t.Fatalf("%v, session %d, epoch %d: %v %x %d and not %d", h, session, epoch, a, secret, e, want)
	}
}

// refusedSecret checks that nobody gets a secret by a.
func refusedSecret(t *testing.T, key [32]byte, h, a api.Packet, want api.Errno) {
	t.Helper()
	if secret, e := shake.CheckAnswer(key, h, a); secret != ([32]byte{}) || e != want {
		t.Fatalf("%v, %v: %x %d and not %d", h, a, secret, e, want)
	}
}

// P10.2: Answer

// The answers are those of another implementation.
func TestAnswerOfKnownBytes(t *testing.T) {
	for _, x := range known() {
		h, want := x.packets(t)
		a, secret, e := shake.Answer(x.key, h, x.session, x.epoch, x.second)
		if !packet.Same(a, want) || hex.EncodeToString(secret[:]) != x.secret || e != api.OK {
			t.Errorf("%v %x %d and not %v", a, secret, e, want)
		}
		if got, e := shake.CheckAnswer(x.key, h, want); hex.EncodeToString(got[:]) != x.secret || e != api.OK {
			t.Errorf("%v: %x %d", want, got, e)
		}
	}
}

func TestAnswerOfMany(t *testing.T) {
	r := rand.New(rand.NewSource(103))
	for range 2000 {
		var key [32]byte
		var first, second [16]byte
		r.Read(key[:])
		r.Read(first[:])
		r.Read(second[:])
		h := helloOf(key, 1+r.Intn(1<<(1+r.Intn(16))), first)
		answers(t, key, h, max(1, r.Uint64()>>r.Intn(64)), max(1, r.Uint32()>>r.Intn(32)), second)
	}
}

// Each bit of the Session and of the Epoch is in the mark.
func TestAnswerOfEachBit(t *testing.T) {
	h := helloOf(unlike(), 65536, bytes16(1))
	for i := range 64 {
		answers(t, unlike(), h, 1<<i, 1<<(i%32), bytes16(2))
		answers(t, unlike(), h, math.MaxUint64>>i, math.MaxUint32>>(i%32), bytes16(2))
	}
}

func TestAnswerRefuses(t *testing.T) {
	h := helloOf(unlike(), 300, bytes16(1))
	for _, session := range []uint64{0, 1, 2, 1 << 32, math.MaxUint64} {
		for _, epoch := range []uint32{0, 1, 2, math.MaxUint32} {
			if session > 0 && epoch > 0 {
				answers(t, unlike(), h, session, epoch, bytes16(5))
				continue
			}
			refusedAnswer(t, unlike(), h, session, epoch, api.ErrArg)
		}
	}
}

// The error of CheckHello comes first.
func TestAnswerOfWrongHellos(t *testing.T) {
	h := helloOf(unlike(), 300, bytes16(1))
	told := map[api.Errno]int{}
	for _, q := range append(changed(h), others()...) {
		want := faultOfHello(unlike(), q)
		told[want]++
		for _, session := range []uint64{0, 1} {
			for _, epoch := range []uint32{0, 1} {
				refusedAnswer(t, unlike(), q, session, epoch, want)
			}
		}
	}
	for i := range 256 {
		key := unlike()
		key[i/8] ^= 1 << (i % 8)
		refusedAnswer(t, key, h, 1, 1, api.ErrTag)
		refusedAnswer(t, key, h, 0, 0, api.ErrTag)
	}
	if told[api.OK] > 0 || told[api.ErrArg] < 100 || told[api.ErrTag] < 200 {
		t.Error(told)
	}
}

// P10.2: CheckAnswer

// Each hello and each answer, right or not, with one another: the first error counts.
func TestCheckAnswerOfAllPairs(t *testing.T) {
	all := others()
	for _, x := range known() {
		h, a := x.packets(t)
		all = append(all, h, a)
	}
	for _, x := range known() {
		for _, h := range all {
			for _, a := range all {
				if want := faultOfAnswer(x.key, h, a); want != api.OK {
					refusedSecret(t, x.key, h, a, want)
				} else if got, e := shake.CheckAnswer(x.key, h, a); got != secretOf(x.key, h.Random, a.Random, a.Session) || e != api.OK {
					t.Fatalf("%v %v: %x %d", h, a, got, e)
				}
			}
		}
	}
}

func TestCheckAnswerOfWrongPackets(t *testing.T) {
	h := helloOf(unlike(), 300, bytes16(1))
	a := answerOf(unlike(), h, 9, 2, bytes16(2))
	forged, notValid := h, h
	forged.Mark[15] ^= 1
	notValid.Peer = 0
	wrong, bad := a, a
	wrong.Mark[0] ^= 1
	bad.Epoch = 0
	for _, x := range []struct {
		h, a api.Packet
		want api.Errno
	}{
		{notValid, wrong, api.ErrArg},
		{forged, bad, api.ErrTag},
		{forged, h, api.ErrTag},
		{forged, wrong, api.ErrTag},
		{a, wrong, api.ErrArg},
		{a, a, api.ErrArg},
		{h, bad, api.ErrArg},
		{h, h, api.ErrArg},
		{h, api.Packet{}, api.ErrArg},
		{api.Packet{}, a, api.ErrArg},
		{h, wrong, api.ErrTag},
		{a, h, api.ErrArg},
	} {
		refusedSecret(t, unlike(), x.h, x.a, x.want)
	}
	if secret, e := shake.CheckAnswer(unlike(), h, a); secret != secretOf(unlike(), bytes16(1), bytes16(2), 9) || e != api.OK {
		t.Errorf("%x %d", secret, e)
	}
}

// What is not valid, or of another kind, is refused as that, also where its mark would be right.
func TestCheckAnswerOfRightMarks(t *testing.T) {
	h := helloOf(unlike(), 300, bytes16(1))
	for _, p := range others() {
		p.Mark = answerMark(unlike(), 300, h.Random, p.Session, p.Epoch, p.Random)
		if p.Kind == 2 && packet.Check(p) == api.OK {
			if secret, e := shake.CheckAnswer(unlike(), h, p); secret != secretOf(unlike(), h.Random, p.Random, p.Session) || e != api.OK {
				t.Errorf("%v: %x %d", p, secret, e)
			}
			continue
		}
		refusedSecret(t, unlike(), h, p, api.ErrArg)
	}
}

// P10.3: exactly one mark fits a hello and the rest of the answer

func TestCheckAnswerOfChangedFields(t *testing.T) {
	told := map[api.Errno]int{}
	for _, x := range known() {
		h, a := x.packets(t)
		for _, q := range changed(a) {
			want := faultOfAnswer(x.key, h, q)
			refusedSecret(t, x.key, h, q, want)
			told[want]++
		}
	}
	if told[api.OK] > 0 || told[api.ErrTag] < 1000 || told[api.ErrArg] < 500 {
		t.Error(told)
	}
}

// An answer to one hello fits no other one, however right that is.
func TestCheckAnswerOfOtherHellos(t *testing.T) {
	told := map[api.Errno]int{}
	for _, x := range known() {
		h, a := x.packets(t)
		for _, q := range changed(h) {
			q.Mark = helloMark(x.key, uint32(q.Peer), q.Random)
			if packet.Same(q, h) {
				continue
			}
			want := faultOfAnswer(x.key, q, a)
			refusedSecret(t, x.key, q, a, want)
			told[want]++
		}
	}
	if told[api.OK] > 0 || told[api.ErrTag] < 500 || told[api.ErrArg] < 300 {
		t.Error(told)
	}
}

func TestCheckAnswerOfEachByteOfAMark(t *testing.T) {
	h := helloOf(unlike(), 300, bytes16(1))
	a := answerOf(unlike(), h, 9, 2, bytes16(2))
	fit := 0
	for i := range a.Mark {
		for x := range 256 {
			q := a
			q.Mark[i] = byte(x)
			if q.Mark == a.Mark {
				fit++
				continue
			}
			refusedSecret(t, unlike(), h, q, api.ErrTag)
		}
	}
	if fit != 16 {
		t.Error(fit)
	}
}

// The marks of hellos, and those of other texts and of other orders of the same bytes, fit no answer.
func TestCheckAnswerOfOtherMarks(t *testing.T) {
	h := helloOf(unlike(), 300, bytes16(1))
	a := answerOf(unlike(), h, 9, 2, bytes16(2))
	peer, session, epoch := []byte{0, 0, 1, 44}, []byte{0, 0, 0, 0, 0, 0, 0, 9}, []byte{0, 0, 0, 2}
	if a.Mark != markOf(unlike(), "answer", peer, h.Random[:], session, epoch, a.Random[:]) {
		t.Fatal("the mark of an answer")
	}
	for _, mark := range [][16]byte{
		{},
		h.Mark,
		helloMark(unlike(), 300, a.Random),
		markOf(unlike(), "hello", peer, h.Random[:], session, epoch, a.Random[:]),
		markOf(unlike(), "", peer, h.Random[:], session, epoch, a.Random[:]),
		markOf(unlike(), "answer", peer, a.Random[:], session, epoch, h.Random[:]),
		markOf(unlike(), "answer", peer, h.Random[:], epoch, session, a.Random[:]),
		markOf(unlike(), "answer", h.Random[:], session, epoch, a.Random[:]),
		markOf(unlike(), "answer", peer, h.Random[:], session, epoch),
		markOf(unlike(), "answer", peer, session, epoch, a.Random[:]),
		markOf(unlike(), "answer", make([]byte, 4), h.Random[:], session, epoch, a.Random[:]),
		markOf(unlike(), "answer", []byte{44, 1, 0, 0}, h.Random[:], session, epoch, a.Random[:]),
		[16]byte(make([]byte, 16)),
	} {
		q := a
		q.Mark = mark
		refusedSecret(t, unlike(), h, q, api.ErrTag)
	}
}

func TestCheckAnswerOfOtherKeys(t *testing.T) {
	h := helloOf(unlike(), 300, bytes16(1))
	a := answerOf(unlike(), h, 9, 2, bytes16(2))
	for i := range 256 {
		key := unlike()
		key[i/8] ^= 1 << (i % 8)
		refusedSecret(t, key, h, a, api.ErrTag)
		// Nor where the hello is that of the other key.
		refusedSecret(t, key, helloOf(key, 300, bytes16(1)), a, api.ErrTag)
	}
}

// P10.3: the same secret for everybody who has the key, and no other one's

func TestHandshakes(t *testing.T) {
	r := rand.New(rand.NewSource(104))
	seen := map[[32]byte]int{}
	for i := range 1000 {
		key := unlike()
		key[0] = byte(r.Intn(256))
		var first, second [16]byte
		r.Read(first[:])
		r.Read(second[:])
		session, epoch := r.Uint64()|1, r.Uint32()|1
		h, e := shake.Hello(key, 1+i, first)
		if e != api.OK || shake.CheckHello(key, h) != api.OK {
			t.Fatalf("%v %d", h, e)
		}
		b, e := packet.Bytes(h)
		there, f := packet.Read(b)
		if e != api.OK || f != api.OK {
			t.Fatalf("%v: %d %d", h, e, f)
		}
		a, granted, e := shake.Answer(key, there, session, epoch, second)
		if e != api.OK {
			t.Fatal(e)
		}
		b, e = packet.Bytes(a)
		back, f := packet.Read(b)
		if e != api.OK || f != api.OK {
			t.Fatalf("%v: %d %d", a, e, f)
		}
		got, e := shake.CheckAnswer(key, h, back)
		if got != granted || got != shake.Secret(key, there, a) || e != api.OK {
			t.Fatalf("%x %d and not %x", got, e, granted)
		}
		if j, twice := seen[got]; twice {
			t.Fatalf("%d and %d: %x", i, j, got)
		}
		seen[got] = i
		// What the gateway seals, the peer opens.
		p, e := packet.Seal(granted, api.ToPeer, session, epoch, 1, some(i%40))
		if _, f := packet.Open(got, api.ToPeer, p); e != api.OK || f != api.OK {
			t.Fatalf("%d %d", e, f)
		}
	}
}

// The same hello, heard twice, is granted sessions with different secrets, each with its own answer.
func TestAnswersToOneHello(t *testing.T) {
	h := helloOf(unlike(), 300, bytes16(1))
	one := answers(t, unlike(), h, 9, 2, bytes16(2))
	two := answers(t, unlike(), h, 10, 2, bytes16(2))
	three := answers(t, unlike(), h, 9, 2, bytes16(3))
	four := answers(t, unlike(), h, 9, 3, bytes16(2))
	all := []api.Packet{one, two, three, four}
	for i, a := range all {
		for j, b := range all {
			if (a.Mark == b.Mark) != (i == j) {
				t.Errorf("%v and %v", a, b)
			}
			// The Epoch is no part of the secret.
			same := i == j || i+j == 3 && i*j == 0
			if (shake.Secret(unlike(), h, a) == shake.Secret(unlike(), h, b)) != same {
				t.Errorf("%v and %v", a, b)
			}
		}
	}
}

// The Random of the hello is the first one: exchanged, they are another handshake.
func TestRandomsExchanged(t *testing.T) {
	h, g := helloOf(unlike(), 300, bytes16(1)), helloOf(unlike(), 300, bytes16(2))
	a, b := answers(t, unlike(), h, 9, 2, bytes16(2)), answers(t, unlike(), g, 9, 2, bytes16(1))
	if a.Mark == b.Mark || shake.Secret(unlike(), h, a) == shake.Secret(unlike(), g, b) {
		t.Errorf("%v and %v", a, b)
	}
	refusedSecret(t, unlike(), h, b, api.ErrTag)
	refusedSecret(t, unlike(), g, a, api.ErrTag)
}
