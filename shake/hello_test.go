package shake_test

import (
	"math"
	"math/rand"
	"testing"

	"drawbridge/api"
	"drawbridge/packet"
	"drawbridge/shake"
)

// P10.1: Hello

// The hellos are those of another implementation.
func TestHelloOfKnownBytes(t *testing.T) {
	for _, x := range known() {
		want, _ := x.packets(t)
		h, e := shake.Hello(x.key, x.peer, x.first)
		if !packet.Same(h, want) || h.Body != nil || e != api.OK {
			t.Errorf("%v %d and not %v", h, e, want)
		}
		if e := shake.CheckHello(x.key, want); e != api.OK {
			t.Errorf("%v: %d", want, e)
		}
	}
}

func TestHelloOfMany(t *testing.T) {
	r := rand.New(rand.NewSource(102))
	for range 3000 {
		var key [32]byte
		var random [16]byte
		r.Read(key[:])
		r.Read(random[:])
		peer := 1 + r.Intn(1<<(1+r.Intn(16)))
		h, e := shake.Hello(key, peer, random)
		if want := helloOf(key, peer, random); !packet.Same(h, want) || e != api.OK {
			t.Fatalf("%v %d and not %v", h, e, want)
		}
		if e := shake.CheckHello(key, h); e != api.OK {
			t.Fatalf("%v: %d", h, e)
		}
	}
}

func TestHelloOfEdges(t *testing.T) {
	for _, peer := range []int{1, 2, 255, 256, 257, 65534, 65535, 65536} {
		h, e := shake.Hello(unlike(), peer, bytes16(9))
		if want := helloOf(unlike(), peer, bytes16(9)); !packet.Same(h, want) || e != api.OK {
			t.Errorf("%d: %v %d", peer, h, e)
		}
	}
	for _, peer := range []int{math.MinInt, math.MinInt32, -65536, -2, -1, 0, 65537, 65538, 1 << 17, 1 << 31, 1 << 32, 1<<32 + 1, 1<<32 + 300, -1<<32 + 1, math.MaxInt} {
		if h, e := shake.Hello(unlike(), peer, bytes16(9)); !nothing(h) || e != api.ErrArg {
			t.Errorf("%d: %v %d", peer, h, e)
		}
	}
}

// P10.1: CheckHello

func TestCheckHelloOfOtherPackets(t *testing.T) {
	for _, p := range others() {
		want := api.ErrArg
		// Of the others these are hellos, of which no mark is right.
		if p.Kind == 1 && packet.Check(p) == api.OK {
			want = api.ErrTag
		}
		if e := shake.CheckHello(unlike(), p); e != want {
			t.Errorf("%v: %d and not %d", p, e, want)
		}
		if e := faultOfHello(unlike(), p); e != want {
			t.Errorf("%v: the second reading is %d and not %d", p, e, want)
		}
	}
}

// What is not valid, or of another kind, is refused as that, also where its mark would be right.
func TestCheckHelloOfRightMarks(t *testing.T) {
	for _, p := range others() {
		p.Mark = helloMark(unlike(), uint32(p.Peer), p.Random)
		want := api.ErrArg
		if p.Kind == 1 && packet.Check(p) == api.OK {
			want = api.OK
		}
		if e := shake.CheckHello(unlike(), p); e != want {
			t.Errorf("%v: %d and not %d", p, e, want)
		}
	}
}

// Exactly one mark fits a Peer and a Random.
func TestCheckHelloOfChangedFields(t *testing.T) {
	told := map[api.Errno]int{}
	for _, x := range known() {
		h, a := x.packets(t)
		for _, q := range changed(h) {
			want := faultOfHello(x.key, q)
			if e := shake.CheckHello(x.key, q); e != want || e == api.OK {
				t.Fatalf("%v: %d and not %d", q, e, want)
			}
			told[want]++
		}
		if e := shake.CheckHello(x.key, a); e != api.ErrArg {
			t.Errorf("%v: %d", a, e)
		}
	}
	if told[api.ErrTag] < 1000 || told[api.ErrArg] < 500 {
		t.Error(told)
	}
}

func TestCheckHelloOfEachByteOfAMark(t *testing.T) {
	h := helloOf(unlike(), 300, bytes16(1))
	for i := range h.Mark {
		for x := range 256 {
			q := h
			q.Mark[i] = byte(x)
			want := api.ErrTag
			if q.Mark == h.Mark {
				want = api.OK
			}
			if e := shake.CheckHello(unlike(), q); e != want {
				t.Fatalf("%d of byte %d: %d and not %d", x, i, e, want)
			}
		}
	}
}

// Differences that are the same in two bytes don't hide each other.
func TestCheckHelloOfTwoChangedBytes(t *testing.T) {
	h := helloOf(unlike(), 300, bytes16(1))
	for i := range h.Mark {
		for j := range i {
			for _, x := range []byte{1, 0x80, 0xff} {
				q := h
				q.Mark[i] ^= x
				q.Mark[j] ^= x
				if e := shake.CheckHello(unlike(), q); e != api.ErrTag {
					t.Fatalf("%x in %d and %d: %d", x, i, j, e)
				}
				q.Mark = h.Mark
				q.Mark[i] += x
				q.Mark[j] -= x
				if e := shake.CheckHello(unlike(), q); e != api.ErrTag {
					t.Fatalf("%x in %d and %d: %d", x, i, j, e)
				}
			}
			q := h
			q.Mark[i], q.Mark[j] = q.Mark[j], q.Mark[i]
			if e := shake.CheckHello(unlike(), q); q.Mark != h.Mark && e != api.ErrTag {
				t.Fatalf("%d and %d: %d", i, j, e)
			}
		}
	}
}

func TestCheckHelloOfOtherKeys(t *testing.T) {
	h := helloOf(unlike(), 300, bytes16(1))
	for i := range 256 {
		key := unlike()
		key[i/8] ^= 1 << (i % 8)
		if e := shake.CheckHello(key, h); e != api.ErrTag {
			t.Fatalf("bit %d: %d", i, e)
		}
	}
	for _, key := range [][32]byte{{}, ones()} {
		if e := shake.CheckHello(key, h); e != api.ErrTag {
			t.Errorf("%x: %d", key, e)
		}
	}
}

// A hello that went over the net as bytes is still right.
func TestHelloAsBytes(t *testing.T) {
	for _, x := range known() {
		h, _ := x.packets(t)
		b, e := packet.Bytes(h)
		q, f := packet.Read(b)
		if e != api.OK || f != api.OK || shake.CheckHello(x.key, q) != api.OK {
			t.Errorf("%v: %v %d %d", h, q, e, f)
		}
	}
}
