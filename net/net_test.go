package net_test

import (
	"bytes"
	"math"
	"slices"
	"strings"
	"testing"

	"drawbridge/api"
	"drawbridge/net"
)

// P17.1

func TestLimits(t *testing.T) {
	if mostEnds != api.MaxEnds || mostRoom != api.MaxFlight || mostWeight != api.MaxWeight {
		t.Error(api.MaxEnds, api.MaxFlight, api.MaxWeight)
	}
}

func TestNew(t *testing.T) {
	for _, room := range []int{1, 2, 3, 100, 4095, 4096} {
		n, r := fresh(t, room), &reading{room: room}
		r.agrees(t, n, room, everyEnd()...)
	}
	for _, room := range []int{0, -1, -2, 4097, 4098, 1 << 20, -4096, math.MinInt, math.MaxInt, 1 << 32, 1<<32 + 1, math.MinInt + 1} {
		if n, e := net.New(room); e != api.ErrArg || n != nil {
			t.Errorf("room for %d: %v %d", room, n, e)
		}
	}
}

// invalid are nets that New did not return.
func invalid() []*net.Net {
	return []*net.Net{nil, {}, new(net.Net)}
}

// It is named before all other errors.
func TestInvalidNets(t *testing.T) {
	for _, n := range invalid() {
		for _, x := range [][2]int{{1, 2}, {2, 1}, {1, 1}, {0, 0}, {0, 1}, {1, 41}, {-1, math.MaxInt}} {
			notSent(t, n, x[0], x[1], nil, api.ErrNil)
			notSent(t, n, x[0], x[1], make([]byte, mostWeight+1), api.ErrNil)
			if got := [2]api.Errno{n.Cut(x[0], x[1]), n.Heal(x[0], x[1])}; got != [2]api.Errno{api.ErrNil, api.ErrNil} || n.Is(x[0], x[1]) {
				t.Error(x, got)
			}
			if l := n.For(x[0]); len(l) > 0 {
				t.Error(x, l)
			}
		}
		for _, number := range []uint64{0, 1, 2, math.MaxUint64} {
			f, e := n.Take(number)
			if e != api.ErrNil || !same([]api.Flight{f}, []api.Flight{{}}) {
				t.Error(number, f, e)
			}
			if e := n.Drop(number); e != api.ErrNil {
				t.Error(number, e)
			}
			notDoubled(t, n, number, api.ErrNil)
		}
		if l := n.All(); len(l) > 0 || n.Len() != 0 {
			t.Error(l, n.Len())
		}
	}
}

// noPairs are such of which one end does not exist, or both are the same.
func noPairs() [][2]int {
	var all [][2]int
	for _, x := range []int{0, -1, -2, -40, 41, 42, 80, 256, 1 << 32, 1<<32 + 1, 1<<32 + 2, 1 << 33, math.MinInt, math.MinInt + 1, math.MaxInt} {
		all = append(all, [2]int{x, x})
		for _, y := range []int{1, 2, 20, 39, 40} {
			all = append(all, [2]int{x, y}, [2]int{y, x}, [2]int{y, y})
		}
		for _, y := range []int{0, -1, 41} {
			all = append(all, [2]int{x, y}, [2]int{y, x})
		}
	}
	return all
}

func TestPairsThatThereAreNot(t *testing.T) {
	n, r := fresh(t, 3), &reading{room: 3}
	for _, x := range noPairs() {
		notSent(t, n, x[0], x[1], nil, api.ErrArg)
		if got := [2]api.Errno{n.Cut(x[0], x[1]), n.Heal(x[0], x[1])}; got != [2]api.Errno{api.ErrArg, api.ErrArg} || n.Is(x[0], x[1]) {
			t.Error(x, got)
		}
	}
	r.agrees(t, n, "nothing", everyEnd()...)
	sends(t, n, 1, 2, "a", 1)
}

func TestEachPair(t *testing.T) {
	n, r := fresh(t, 4096), &reading{room: 4096}
	number := uint64(0)
	for a := 1; a <= mostEnds; a++ {
		for b := 1; b <= mostEnds; b++ {
			if a != b {
				number++
				sends(t, n, a, b, strings.Repeat("x", a)+strings.Repeat("y", b), number)
				r.send(a, b, strings.Repeat("x", a)+strings.Repeat("y", b))
			}
		}
	}
	r.agrees(t, n, "each pair", everyEnd()...)
	for ; number > 0; number-- {
		step{call: "take", number: number}.do(t, n, r, number)
	}
	r.agrees(t, n, "all arrived")
}

func TestSend(t *testing.T) {
	n := fresh(t, 5)
	sends(t, n, 1, 2, "a", 1)
	sends(t, n, 1, 2, "a", 2)
	sends(t, n, 2, 1, "", 3)
	sends(t, n, 40, 39, "\x00\xff", 4)
	has(t, n, 1, 2, 3, 4)
	takes(t, n, 2, 1, 2, "a")
	takes(t, n, 4, 40, 39, "\x00\xff")
	has(t, n, 1, 3)
	takes(t, n, 3, 2, 1, "")
	takes(t, n, 1, 1, 2, "a")
	has(t, n)
}

// A nil slice is an empty message.
func TestSendOfNothing(t *testing.T) {
	n := fresh(t, 5)
	for i, b := range [][]byte{nil, {}, make([]byte, 0, 9)} {
		number, e := n.Send(1, 2, b)
		ok(t, e)
		takes(t, n, number, 1, 2, "")
		if number != uint64(i)+1 {
			t.Error(number)
		}
	}
}

// Every byte arrives as it was sent.
func TestEachByte(t *testing.T) {
	n := fresh(t, 1)
	var all []byte
	for c := range 256 {
		all = append(all, byte(c))
		sends(t, n, 1, 2, string(all), uint64(2*c+1))
		takes(t, n, uint64(2*c+1), 1, 2, string(all))
		sends(t, n, 1, 2, string([]byte{byte(c)}), uint64(2*c+2))
		takes(t, n, uint64(2*c+2), 1, 2, string([]byte{byte(c)}))
	}
}

func TestLongMessages(t *testing.T) {
	n := fresh(t, 2)
	long := bytes.Repeat([]byte("0123456789abcde"), mostWeight/15+1)
	for i, size := range []int{1, 255, 65536, mostWeight - 1, mostWeight} {
		sends(t, n, 1, 2, string(long[:size]), uint64(i+1))
		takes(t, n, uint64(i+1), 1, 2, string(long[:size]))
	}
	for _, size := range []int{mostWeight + 1, mostWeight + 2, 2 * mostWeight, 3*mostWeight + 1} {
		notSent(t, n, 1, 2, make([]byte, size), api.ErrLong)
	}
	has(t, n)
	sends(t, n, 1, 2, "", 6)
}

// What is not used of a slice has no weight.
func TestSpareCapacityHasNoWeight(t *testing.T) {
	n := fresh(t, 1)
	if number, e := n.Send(1, 2, make([]byte, 3, 2*mostWeight)); number != 1 || e != api.OK {
		t.Fatal(number, e)
	}
	takes(t, n, 1, 1, 2, "\x00\x00\x00")
}

func TestSendWithoutRoom(t *testing.T) {
	for _, room := range []int{1, 2, 3, 17, 4095, 4096} {
		n, r := fresh(t, room), &reading{room: room}
		for i := range room {
			step{call: "send", a: i%40 + 1, b: (i+7)%40 + 1, bytes: "x"}.do(t, n, r, room)
		}
		notSent(t, n, 1, 2, nil, api.ErrFull)
		notDoubled(t, n, 1, api.ErrFull)
		r.agrees(t, n, room, 1, 2, 40)
		// A number is assigned only to what is on its way.
		for i := range 5 {
			last := uint64(room + i + 1)
			step{call: "take", number: last - 1}.do(t, n, r, room)
			sends(t, n, 3, 4, "y", last)
			r.send(3, 4, "y")
			notSent(t, n, 1, 2, nil, api.ErrFull)
		}
		r.agrees(t, n, room, 1, 2, 3, 4, 40)
	}
}

// Of what is refused or lost no number is assigned.
func TestNumbers(t *testing.T) {
	n := fresh(t, 2)
	notTaken(t, n, 0)
	notTaken(t, n, 1)
	notSent(t, n, 1, 1, nil, api.ErrArg)
	notSent(t, n, 1, 2, make([]byte, mostWeight+1), api.ErrLong)
	notDoubled(t, n, 1, api.ErrNone)
	ok(t, n.Cut(1, 2))
	notSent(t, n, 1, 2, nil, api.OK)
	sends(t, n, 1, 3, "a", 1)
	doubles(t, n, 1, 2)
	notSent(t, n, 1, 3, nil, api.ErrFull)
	notDoubled(t, n, 2, api.ErrFull)
	ok(t, n.Drop(2), n.Drop(1))
	sends(t, n, 1, 3, "b", 3)
	notTaken(t, n, 1)
	notTaken(t, n, 2)
	notTaken(t, n, 4)
	takes(t, n, 3, 1, 3, "b")
	sends(t, n, 1, 3, "c", 4)
}

// The errors of Send in their order: of two that apply the first one is returned.
func TestOrderOfErrors(t *testing.T) {
	n := fresh(t, 1)
	sends(t, n, 3, 4, "a", 1)
	ok(t, n.Cut(1, 2))
	long := make([]byte, mostWeight+1)
	notSent(t, n, 1, 1, long, api.ErrArg)
	notSent(t, n, 1, 41, long, api.ErrArg)
	notSent(t, n, 0, 1, long, api.ErrArg)
	notSent(t, n, 0, 1, nil, api.ErrArg)
	notSent(t, n, 1, 2, long, api.ErrLong)
	notSent(t, n, 1, 3, long, api.ErrLong)
	notSent(t, n, 1, 2, long[:mostWeight], api.OK)
	notSent(t, n, 2, 1, nil, api.OK)
	notSent(t, n, 1, 3, nil, api.ErrFull)
	notDoubled(t, n, 2, api.ErrNone)
	notDoubled(t, n, 0, api.ErrNone)
	notDoubled(t, n, 1, api.ErrFull)
	has(t, n, 1)
}

func TestTake(t *testing.T) {
	n := fresh(t, 3)
	sends(t, n, 5, 9, "abc", 1)
	sends(t, n, 9, 5, "", 2)
	for _, number := range []uint64{0, 3, 4, 1 << 32, 1<<32 + 1, 1 << 63, math.MaxUint64} {
		notTaken(t, n, number)
	}
	has(t, n, 1, 2)
	takes(t, n, 2, 9, 5, "")
	notTaken(t, n, 2)
	has(t, n, 1)
	takes(t, n, 1, 5, 9, "abc")
	notTaken(t, n, 1)
	has(t, n)
}

// What arrives while its ends are cut is lost; what does not arrive meanwhile is on its way all along.
func TestTakeOfCutEnds(t *testing.T) {
	for _, swap := range []bool{false, true} {
		n := fresh(t, 9)
		sends(t, n, 1, 2, "a", 1)
		sends(t, n, 2, 1, "b", 2)
		sends(t, n, 1, 3, "c", 3)
		sends(t, n, 2, 1, "d", 4)
		a, b := 1, 2
		if swap {
			a, b = b, a
		}
		ok(t, n.Cut(a, b))
		has(t, n, 1, 2, 3, 4)
		notTaken(t, n, 1)
		has(t, n, 2, 3, 4)
		notTaken(t, n, 2)
		has(t, n, 3, 4)
		takes(t, n, 3, 1, 3, "c")
		ok(t, n.Heal(b, a))
		notTaken(t, n, 1)
		notTaken(t, n, 2)
		takes(t, n, 4, 2, 1, "d")
		has(t, n)
	}
}

func TestDrop(t *testing.T) {
	n := fresh(t, 3)
	sends(t, n, 5, 9, "abc", 1)
	sends(t, n, 9, 5, "", 2)
	for _, number := range []uint64{0, 3, 4, 1<<32 + 1, math.MaxUint64} {
		if e := n.Drop(number); e != api.ErrNone {
			t.Error(number, e)
		}
	}
	has(t, n, 1, 2)
	ok(t, n.Drop(1))
	has(t, n, 2)
	if e := n.Drop(1); e != api.ErrNone {
		t.Error(e)
	}
	notTaken(t, n, 1)
	takes(t, n, 2, 9, 5, "")
	if e := n.Drop(2); e != api.ErrNone {
		t.Error(e)
	}
}

// Drop and Twice do not ask whether the ends are cut.
func TestDropAndTwiceOfCutEnds(t *testing.T) {
	n := fresh(t, 3)
	sends(t, n, 1, 2, "a", 1)
	ok(t, n.Cut(2, 1))
	doubles(t, n, 1, 2)
	ok(t, n.Drop(1))
	doubles(t, n, 2, 3)
	has(t, n, 2, 3)
	notTaken(t, n, 2)
	ok(t, n.Heal(1, 2))
	takes(t, n, 3, 1, 2, "a")
}

func TestTwice(t *testing.T) {
	n := fresh(t, 5)
	sends(t, n, 7, 8, "abc", 1)
	sends(t, n, 8, 7, "", 2)
	doubles(t, n, 1, 3)
	doubles(t, n, 2, 4)
	doubles(t, n, 3, 5)
	notDoubled(t, n, 1, api.ErrFull)
	notDoubled(t, n, 6, api.ErrNone)
	has(t, n, 1, 2, 3, 4, 5)
	takes(t, n, 3, 7, 8, "abc")
	notDoubled(t, n, 3, api.ErrNone)
	ok(t, n.Drop(1))
	doubles(t, n, 5, 6)
	takes(t, n, 6, 7, 8, "abc")
	takes(t, n, 5, 7, 8, "abc")
	takes(t, n, 4, 8, 7, "")
	takes(t, n, 2, 8, 7, "")
	has(t, n)
}

// Cut and Heal are of two ends in either order, and doing it again changes nothing.
func TestCutAndHeal(t *testing.T) {
	pairs := [][2]int{{1, 2}, {2, 1}, {1, 40}, {40, 1}, {39, 40}, {20, 21}, {1, 3}, {2, 3}, {12, 3}, {1, 23}}
	n, r := fresh(t, 9), &reading{room: 9}
	for _, x := range pairs {
		for range 2 {
			step{call: "cut", a: x[0], b: x[1]}.do(t, n, r, x)
			r.agrees(t, n, x, everyEnd()...)
			notSent(t, n, x[0], x[1], []byte("a"), api.OK)
			notSent(t, n, x[1], x[0], []byte("a"), api.OK)
			has(t, n)
		}
	}
	for _, x := range pairs[2:] {
		for range 2 {
			step{call: "heal", a: x[1], b: x[0]}.do(t, n, r, x)
			r.agrees(t, n, x, everyEnd()...)
		}
		sent := r.sent
		step{call: "send", a: x[0], b: x[1], bytes: "a"}.do(t, n, r, x)
		step{call: "take", number: uint64(sent) + 1}.do(t, n, r, x)
	}
	// Once is enough, however often it was cut.
	ok(t, n.Cut(1, 2), n.Cut(2, 1), n.Cut(1, 2), n.Heal(2, 1))
	if n.Is(1, 2) || n.Is(2, 1) {
		t.Error("they are cut")
	}
}

// Each pair is cut alone.
func TestPairsAreApart(t *testing.T) {
	for a := 1; a <= mostEnds; a++ {
		for b := a + 1; b <= mostEnds; b++ {
			n, r := fresh(t, 1), &reading{room: 1}
			step{call: "cut", a: a, b: b}.do(t, n, r, "cut")
			if (a+b)%5 == 0 {
				r.agrees(t, n, [2]int{a, b}, everyEnd()...)
			}
			step{call: "send", a: b, b: a}.do(t, n, r, "send")
			step{call: "send", a: a%40 + 1, b: (b+1)%40 + 1, bytes: "x"}.do(t, n, r, "send")
			r.agrees(t, n, [2]int{a, b}, 1, a, b, 40)
		}
	}
}

func TestAllPairsCut(t *testing.T) {
	n, r := fresh(t, 4096), &reading{room: 4096}
	for a := 1; a <= mostEnds; a++ {
		for b := 1; b < a; b++ {
			step{call: "send", a: a, b: b, bytes: "x"}.do(t, n, r, "send")
			step{call: "cut", a: b, b: a}.do(t, n, r, "cut")
		}
	}
	r.agrees(t, n, "all", everyEnd()...)
	for number := range uint64(800) {
		notTaken(t, n, number)
	}
	has(t, n)
}

// P17.2

func TestFor(t *testing.T) {
	n := fresh(t, 20)
	for i, to := range []int{2, 3, 2, 40, 3, 2, 40, 4} {
		sends(t, n, 1, to, "x", uint64(i)+1)
	}
	doubles(t, n, 1, 9)
	for _, x := range []struct {
		to   int
		want []uint64
	}{
		{1, nil}, {2, []uint64{1, 3, 6, 9}}, {3, []uint64{2, 5}}, {4, []uint64{8}}, {5, nil}, {39, nil}, {40, []uint64{4, 7}},
		{0, nil}, {-1, nil}, {41, nil}, {-2, nil}, {1<<32 + 2, nil}, {math.MinInt, nil}, {math.MaxInt, nil},
	} {
		if got := numbers(n.For(x.to)); !slices.Equal(got, x.want) {
			t.Errorf("for %d: %d", x.to, got)
		}
	}
	// That they are cut takes nothing away.
	ok(t, n.Cut(1, 2))
	if got := numbers(n.For(2)); !slices.Equal(got, []uint64{1, 3, 6, 9}) {
		t.Error(got)
	}
}

// The order is that of numbers, not that of their digits, nor that of a map.
func TestFlightsAreOrdered(t *testing.T) {
	n := fresh(t, 4096)
	var want []uint64
	for i := range 4096 {
		sends(t, n, 1, 2+i%2, "x", uint64(i)+1)
	}
	for i := uint64(1); i <= 4096; i++ {
		if i%3 == 0 {
			ok(t, n.Drop(i))
		} else {
			want = append(want, i)
		}
	}
	has(t, n, want...)
	odd := slices.DeleteFunc(slices.Clone(want), func(x uint64) bool { return x%2 == 0 })
	if got := numbers(n.For(2)); !slices.Equal(got, odd) {
		t.Error(len(got), len(odd))
	}
}

// No question changes anything.
func TestQuestionsChangeNothing(t *testing.T) {
	n, r := fresh(t, 2), &reading{room: 2}
	for _, s := range []step{{call: "send", a: 1, b: 2, bytes: "a"}, {call: "cut", a: 2, b: 3}, {call: "twice", number: 1}} {
		s.do(t, n, r, s)
	}
	for range 3 {
		r.agrees(t, n, "asked", everyEnd()...)
	}
	takes(t, n, 2, 1, 2, "a")
	sends(t, n, 1, 2, "b", 3)
}

// The chapter's examples.
func TestExamples(t *testing.T) {
	n := fresh(t, 10)
	sends(t, n, 1, 2, "a", 1)
	sends(t, n, 2, 1, "b", 2)
	if l := n.For(1); !same(l, []api.Flight{{Number: 2, From: 2, To: 1, Bytes: []byte("b")}}) {
		t.Error(told(l))
	}
	ok(t, n.Cut(1, 2))
	notSent(t, n, 1, 2, []byte("c"), api.OK)
	notTaken(t, n, 1)
	ok(t, n.Heal(2, 1))
	takes(t, n, 2, 2, 1, "b")
}
