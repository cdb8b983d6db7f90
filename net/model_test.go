package net_test

import (
	"bytes"
	"fmt"
	"slices"
	"strings"
	"testing"

	"drawbridge/api"
	"drawbridge/net"
)

const (
	mostEnds   = 40
	mostRoom   = 4096
	mostWeight = 2097152
)

// The second reading of the chapter: flights in the list in which they began, and each end with those that it is cut from.

// reading is a net of the second reading.
type reading struct {
	room  int
	sent  int // how many flights there have ever been
	list  []api.Flight
	apart [mostEnds + 1][]int
}

func (r *reading) at(number uint64) int {
	return slices.IndexFunc(r.list, func(f api.Flight) bool { return f.Number == number })
}

func (r *reading) is(a, b int) bool {
	return a > 0 && a <= mostEnds && slices.Contains(r.apart[a], b)
}

// refuses is why there is nothing between two ends.
func (r *reading) refuses(a, b int) api.Errno {
	for _, x := range []int{a, b} {
		if x < 1 || x > mostEnds {
			return api.ErrArg
		}
	}
	if a == b {
		return api.ErrArg
	}
	return api.OK
}

func (r *reading) begins(f api.Flight) (uint64, api.Errno) {
	if len(r.list) == r.room {
		return 0, api.ErrFull
	}
	r.sent++
	f.Number = uint64(r.sent)
	r.list = append(r.list, f)
	return f.Number, api.OK
}

func (r *reading) send(from, to int, b string) (uint64, api.Errno) {
	switch e := r.refuses(from, to); {
	case e != api.OK:
		return 0, e
	case len(b) > mostWeight:
		return 0, api.ErrLong
	case r.is(to, from):
		return 0, api.OK
	}
	return r.begins(api.Flight{From: from, To: to, Bytes: []byte(b)})
}

// ends is the flight that is removed.
func (r *reading) ends(number uint64) (api.Flight, api.Errno) {
	i := r.at(number)
	if i < 0 {
		return api.Flight{}, api.ErrNone
	}
	f := r.list[i]
	r.list = slices.Delete(r.list, i, i+1)
	return f, api.OK
}

func (r *reading) take(number uint64) (api.Flight, api.Errno) {
	f, e := r.ends(number)
	if r.is(f.To, f.From) {
		return api.Flight{}, api.ErrNone
	}
	return f, e
}

func (r *reading) twice(number uint64) (uint64, api.Errno) {
	i := r.at(number)
	if i < 0 {
		return 0, api.ErrNone
	}
	return r.begins(r.list[i])
}

func (r *reading) cut(a, b int) api.Errno {
	if e := r.heal(a, b); e != api.OK {
		return e
	}
	r.apart[a], r.apart[b] = append(r.apart[a], b), append(r.apart[b], a)
	return api.OK
}

func (r *reading) heal(a, b int) api.Errno {
	if e := r.refuses(a, b); e != api.OK {
		return e
	}
	r.apart[a] = slices.DeleteFunc(r.apart[a], func(x int) bool { return x == b })
	r.apart[b] = slices.DeleteFunc(r.apart[b], func(x int) bool { return x == a })
	return api.OK
}

func (r *reading) to(end int) []api.Flight {
	return slices.DeleteFunc(slices.Clone(r.list), func(f api.Flight) bool { return f.To != end })
}

// same reports whether two lists of flights are equal.
func same(a, b []api.Flight) bool {
	return slices.EqualFunc(a, b, func(f, g api.Flight) bool {
		return f.Number == g.Number && f.From == g.From && f.To == g.To && bytes.Equal(f.Bytes, g.Bytes)
	})
}

// told are flights as words.
func told(l []api.Flight) string {
	var s strings.Builder
	for _, f := range l {
		fmt.Fprintf(&s, " %d: %d to %d: %.20q;", f.Number, f.From, f.To, f.Bytes)
	}
	return s.String()
}

// agrees checks that all questions to n are answered as r answers them, for these ends.
func (r *reading) agrees(t *testing.T, n *net.Net, why any, ends ...int) {
	t.Helper()
	if got := n.All(); !same(got, r.list) || n.Len() != len(r.list) {
		t.Fatalf("%v: %d flights:%s, and not%s", why, n.Len(), told(got), told(r.list))
	}
	for _, a := range ends {
		if got := n.For(a); !same(got, r.to(a)) {
			t.Fatalf("%v: for %d:%s, and not%s", why, a, told(got), told(r.to(a)))
		}
		for _, b := range ends {
			if n.Is(a, b) != r.is(a, b) {
				t.Fatalf("%v: %d and %d are cut: %v", why, a, b, n.Is(a, b))
			}
		}
	}
}

// step is a call of one of the functions that change a net.
type step struct {
	call   string
	number uint64
	a, b   int
	bytes  string
}

func (s step) String() string {
	switch s.call {
	case "send", "cut", "heal":
		return strings.TrimSpace(fmt.Sprintf("%s %d %d %.20s", s.call, s.a, s.b, s.bytes))
	}
	return fmt.Sprintf("%s %d", s.call, s.number)
}

// do calls n and r, which must return the same.
func (s step) do(t *testing.T, n *net.Net, r *reading, why any) {
	t.Helper()
	var got, want struct {
		number uint64
		flight api.Flight
		err    api.Errno
	}
	switch s.call {
	case "send":
		got.number, got.err = n.Send(s.a, s.b, []byte(s.bytes))
		want.number, want.err = r.send(s.a, s.b, s.bytes)
	case "take":
		got.flight, got.err = n.Take(s.number)
		want.flight, want.err = r.take(s.number)
	case "drop":
		got.err = n.Drop(s.number)
		_, want.err = r.ends(s.number)
	case "twice":
		got.number, got.err = n.Twice(s.number)
		want.number, want.err = r.twice(s.number)
	case "cut":
		got.err, want.err = n.Cut(s.a, s.b), r.cut(s.a, s.b)
	case "heal":
		got.err, want.err = n.Heal(s.a, s.b), r.heal(s.a, s.b)
	default:
		t.Fatal(s)
	}
	if got.err != want.err || got.number != want.number || !same([]api.Flight{got.flight}, []api.Flight{want.flight}) {
		t.Fatalf("%v: the last one returned %v, and not %v", why, got, want)
	}
}

// everyEnd are all ends, and some that there are not.
func everyEnd() []int {
	var all []int
	for x := -2; x <= mostEnds+2; x++ {
		all = append(all, x)
	}
	return all
}

// fresh is a new net with so much room.
func fresh(t *testing.T, room int) *net.Net {
	t.Helper()
	n, e := net.New(room)
	if e != api.OK || n == nil {
		t.Fatalf("room for %d: %d", room, e)
	}
	return n
}

// ok checks that no call returned an error.
func ok(t *testing.T, all ...api.Errno) {
	t.Helper()
	for i, e := range all {
		if e != api.OK {
			t.Fatalf("call %d: %d", i, e)
		}
	}
}

// sends checks under which number something is sent.
func sends(t *testing.T, n *net.Net, from, to int, b string, want uint64) {
	t.Helper()
	if number, e := n.Send(from, to, []byte(b)); number != want || e != api.OK {
		t.Fatalf("%d to %d: %.20q: %d (%d), and not %d", from, to, b, number, e, want)
	}
}

// notSent checks that nothing is sent, and why.
func notSent(t *testing.T, n *net.Net, from, to int, b []byte, want api.Errno) {
	t.Helper()
	if number, e := n.Send(from, to, b); number != 0 || e != want {
		t.Fatalf("%d to %d: %d bytes: %d (%d), and not %d", from, to, len(b), number, e, want)
	}
}

// takes checks what arrives.
func takes(t *testing.T, n *net.Net, number uint64, from, to int, b string) {
	t.Helper()
	want := api.Flight{Number: number, From: from, To: to, Bytes: []byte(b)}
	if f, e := n.Take(number); e != api.OK || !same([]api.Flight{f}, []api.Flight{want}) {
		t.Fatalf("%d:%s (%d)", number, told([]api.Flight{f}), e)
	}
}

// notTaken checks that nothing arrives.
func notTaken(t *testing.T, n *net.Net, number uint64) {
	t.Helper()
	if f, e := n.Take(number); e != api.ErrNone || !same([]api.Flight{f}, []api.Flight{{}}) {
		t.Fatalf("%d:%s (%d)", number, told([]api.Flight{f}), e)
	}
}

// doubles checks under which number a second one is on its way.
func doubles(t *testing.T, n *net.Net, number, want uint64) {
	t.Helper()
	if second, e := n.Twice(number); second != want || e != api.OK {
		t.Fatalf("%d: %d (%d), and not %d", number, second, e, want)
	}
}

// notDoubled checks that there is no second one, and why.
func notDoubled(t *testing.T, n *net.Net, number uint64, want api.Errno) {
	t.Helper()
	if second, e := n.Twice(number); second != 0 || e != want {
		t.Fatalf("%d: %d (%d), and not %d", number, second, e, want)
	}
}

// has checks the numbers of all flights.
func has(t *testing.T, n *net.Net, want ...uint64) {
	t.Helper()
	if got := numbers(n.All()); !slices.Equal(got, want) || n.Len() != len(want) {
		t.Fatalf("%d flights: %d, and not %d", n.Len(), got, want)
	}
}

func numbers(l []api.Flight) []uint64 {
	var all []uint64
	for _, f := range l {
		all = append(all, f.Number)
	}
	return all
}
