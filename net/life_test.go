package net_test

import (
	"math/rand"
	"slices"
	"strconv"
	"testing"

	"drawbridge/api"
	"drawbridge/net"
)

// live does all steps to a new net and to a reading of it; they are held against each other at the end, or after each.
func live(t *testing.T, room int, each bool, steps ...step) *net.Net {
	t.Helper()
	n, r := fresh(t, room), &reading{room: room}
	for i, s := range steps {
		why := steps[:i+1]
		s.do(t, n, r, why)
		if each || i == len(steps)-1 {
			r.agrees(t, n, why, 0, 1, 2, 3, 4, 40, 41)
		}
	}
	return n
}

// P17.1, P17.2

// All orders of a few steps on a small net.
func TestAllOrders(t *testing.T) {
	few := []step{
		{call: "send", a: 1, b: 2, bytes: "x"},
		{call: "send", a: 2, b: 1, bytes: "yz"},
		{call: "send", a: 3, b: 2},
		{call: "send", a: 2, b: 2},
		{call: "take", number: 1},
		{call: "take", number: 2},
		{call: "drop", number: 1},
		{call: "drop", number: 3},
		{call: "twice", number: 1},
		{call: "twice", number: 2},
		{call: "cut", a: 1, b: 2},
		{call: "cut", a: 2, b: 3},
		{call: "heal", a: 2, b: 1},
		{call: "heal", a: 2, b: 2},
	}
	lives := [][]step{nil}
	for range 4 {
		var longer [][]step
		for _, l := range lives {
			for _, s := range few {
				longer = append(longer, append(slices.Clone(l), s))
			}
		}
		lives = longer
		for _, l := range lives {
			live(t, 2, false, l...)
		}
	}
	if len(lives) != 38416 {
		t.Error(len(lives))
	}
}

// somehow is a step that tends to fit a net of so few flights so far.
func somehow(r *rand.Rand, flights int) step {
	ends := []int{1, 2, 3, 4, 40, 1, 2, 3, 4, 40, 1, 2, 3, 4, 40, 0, 41, -1}
	s := step{a: ends[r.Intn(len(ends))], b: ends[r.Intn(len(ends))], number: uint64(max(flights-r.Intn(12), 0))}
	switch r.Intn(16) {
	case 0, 1, 2, 3, 4, 5, 6:
		s.call, s.bytes = "send", strconv.Itoa(r.Intn(1000))
	case 7, 8:
		s.call = "twice"
	case 9, 10, 11:
		s.call = "take"
	case 12:
		s.call = "drop"
	case 13:
		s.call = "cut"
	default:
		s.call = "heal"
	}
	return s
}

// random are steps of a random life.
func random(r *rand.Rand, n int) []step {
	steps := make([]step, n)
	for i := range steps {
		steps[i] = somehow(r, i/2)
	}
	return steps
}

func TestRandomLives(t *testing.T) {
	r := rand.New(rand.NewSource(17))
	for n := range 1500 {
		// Some are asked at the end alone, so that no question has a part in it.
		live(t, []int{1, 2, 3, 8, 20, 4096}[n%6], n%2 == 0, random(r, 80)...)
	}
}

// P17.3

// history is what was sent through a net, by numbers.
type history struct {
	sent    map[uint64]api.Flight
	of      map[uint64]uint64 // which message a flight carries: the number under which it was sent
	doubled map[uint64]int    // how often, by message
	arrived map[uint64]int    // how often, by message
	taken   map[uint64]int    // how often, by flight
}

// took checks that what arrives was sent, and not too often.
func (h *history) took(t *testing.T, f api.Flight) {
	t.Helper()
	was, there := h.sent[h.of[f.Number]]
	if !there {
		t.Fatalf("%s was not sent", told([]api.Flight{f}))
	}
	was.Number = f.Number
	if !same([]api.Flight{was}, []api.Flight{f}) {
		t.Fatalf("%s was sent as%s", told([]api.Flight{f}), told([]api.Flight{was}))
	}
	h.taken[f.Number]++
	message := h.of[f.Number]
	h.arrived[message]++
	if h.taken[f.Number] > 1 || h.arrived[message] > 1+h.doubled[message] {
		t.Fatalf("%d arrives again", f.Number)
	}
}

// step does anything to n.
func (h *history) step(t *testing.T, n *net.Net, r *rand.Rand, known map[string]int) {
	t.Helper()
	number := uint64(max(len(h.of)-r.Intn(30), 0))
	a, b := r.Intn(4)+1, r.Intn(4)+1
	switch r.Intn(20) {
	case 0:
		n.Cut(a, b)
	case 1, 2:
		n.Heal(a, b)
	case 3:
		n.Drop(number)
	case 4, 5, 6:
		second, e := n.Twice(number)
		if e != api.OK {
			break
		}
		if _, there := h.of[second]; there {
			t.Fatal(second)
		}
		h.of[second] = h.of[number]
		h.doubled[h.of[number]]++
		known["twice"]++
	case 7, 8, 9, 10, 11, 12:
		if f, e := n.Take(number); e == api.OK {
			h.took(t, f)
			known["took"]++
		}
	default:
		text := strconv.Itoa(r.Intn(1 << 30))
		first, e := n.Send(a, b, []byte(text))
		if e != api.OK || first == 0 {
			break
		}
		if _, there := h.of[first]; there {
			t.Fatal(first)
		}
		h.sent[first] = api.Flight{From: a, To: b, Bytes: []byte(text)}
		h.of[first] = first
		known["sent"]++
	}
}

func TestWhatArrivesWasSent(t *testing.T) {
	r := rand.New(rand.NewSource(18))
	known := map[string]int{}
	for life := range 200 {
		n := fresh(t, 10+life)
		h := &history{map[uint64]api.Flight{}, map[uint64]uint64{}, map[uint64]int{}, map[uint64]int{}, map[uint64]int{}}
		for range 400 {
			h.step(t, n, r, known)
		}
		// The rest arrives too, and no more than that.
		for a := range 4 {
			for b := range a {
				ok(t, n.Heal(a+1, b+1))
			}
		}
		for _, number := range numbers(n.All()) {
			f, e := n.Take(number)
			ok(t, e)
			h.took(t, f)
		}
		for number := range uint64(len(h.of)) + 2 {
			notTaken(t, n, number)
		}
	}
	for _, x := range []string{"sent", "took", "twice"} {
		if known[x] < 1000 {
			t.Error(known)
		}
	}
}

// If nothing is dropped, and nobody is cut, everything arrives, in whatever order it is taken.
func TestAllArrives(t *testing.T) {
	r := rand.New(rand.NewSource(19))
	for range 30 {
		n := fresh(t, 300)
		want := map[uint64]string{}
		for i := range 150 {
			text := strconv.Itoa(r.Intn(1 << 30))
			sends(t, n, i%40+1, (i+1)%40+1, text, uint64(2*i+1))
			doubles(t, n, uint64(2*i+1), uint64(2*i+2))
			want[uint64(2*i+1)], want[uint64(2*i+2)] = text, text
		}
		for _, x := range r.Perm(300) {
			i := x / 2
			takes(t, n, uint64(x)+1, i%40+1, (i+1)%40+1, want[uint64(x)+1])
		}
		has(t, n)
	}
}

// Rule 6: the same calls come to the same, although the flights are in a map.
func TestTheSameCallsComeToTheSame(t *testing.T) {
	r := rand.New(rand.NewSource(20))
	steps := random(r, 300)
	first := live(t, 200, false, steps...)
	for range 50 {
		n := live(t, 200, false, steps...)
		if !same(n.All(), first.All()) || !same(n.For(2), first.For(2)) {
			t.Fatal(told(n.All()), told(first.All()))
		}
	}
}
