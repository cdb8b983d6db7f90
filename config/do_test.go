package config_test

import (
	"maps"
	"math"
	"math/rand"
	"slices"
	"testing"

	"drawbridge/api"
	"drawbridge/config"
)

// place is the Addr and the Bits of a route.
type place struct {
	addr uint32
	bits int
}

// book is the second reading of a configuration: maps that know no order.
type book struct {
	peers  map[int]api.Member
	routes map[place]int
}

// bookOf is the book of a valid configuration.
func bookOf(c api.Config) book {
	b := book{map[int]api.Member{}, map[place]int{}}
	for _, m := range c.Peers {
		b.peers[m.ID] = m
	}
	for _, r := range c.Routes {
		b.routes[place{r.Addr, r.Bits}] = r.Peer
	}
	return b
}

// does is the chapter's table: the errors, and what the operation changes.
func (b book) does(o api.Op) api.Errno {
	m, there := b.peers[o.ID]
	at := place{o.Addr, o.Bits}
	_, leads := b.routes[at]
	switch {
	case o.Kind == 1 && !there && len(b.peers) >= 64:
		return api.ErrFull
	case o.Kind == 1:
		b.peers[o.ID] = api.Member{ID: o.ID, Key: o.Key}
	case (o.Kind == 2 || o.Kind == 3 || o.Kind == 4) && !there:
		return api.ErrNone
	case o.Kind == 2:
		b.peers[o.ID] = api.Member{ID: m.ID, Key: m.Key, Off: true}
	case o.Kind == 3:
		delete(b.peers, o.ID)
		maps.DeleteFunc(b.routes, func(_ place, id int) bool { return id == o.ID })
	case o.Kind == 4 && !leads && len(b.routes) >= 256:
		return api.ErrFull
	case o.Kind == 4:
		b.routes[at] = o.ID
	case !leads:
		return api.ErrNone
	default:
		delete(b.routes, at)
	}
	return api.OK
}

// is reports whether the valid configuration c has what b has.
func (b book) is(c api.Config) bool {
	d := bookOf(c)
	return maps.Equal(b.peers, d.peers) && maps.Equal(b.routes, d.routes) && len(c.Peers) == len(d.peers) && len(c.Routes) == len(d.routes)
}

// does checks Do of valid arguments against the book, and that the result is new memory.
func does(t *testing.T, c api.Config, o api.Op) (api.Config, api.Errno) {
	t.Helper()
	room := roomy(c)
	was := clone(spare(room))
	b := bookOf(c)
	want := b.does(o)
	got, e := config.Do(room, o)
	if e != want {
		t.Fatalf("%v: %v: %d and not %d", c, o, e, want)
	}
	if e != api.OK && !zero(got) {
		t.Fatalf("%v: %v: %v beside %d", c, o, got, e)
	}
	if e == api.OK && (!valid(got) || config.Check(got) != api.OK || !b.is(got)) {
		t.Fatalf("%v: %v: %v", c, o, got)
	}
	result := clone(got)
	isNew(t, got, room, was)
	return result, e
}

// zero reports whether there is nothing in c, nor in its spare capacity.
func zero(c api.Config) bool {
	return cap(c.Peers) == 0 && cap(c.Routes) == 0
}

// did is c after o, which must succeed.
func did(t *testing.T, c api.Config, o api.Op) api.Config {
	t.Helper()
	got, e := does(t, c, o)
	if e != api.OK {
		t.Fatalf("%v: %v: %d", c, o, e)
	}
	return got
}

// notDid checks that o is refused, and that nothing is told beside the error.
func notDid(t *testing.T, c api.Config, o api.Op, want api.Errno) {
	t.Helper()
	if got, e := config.Do(c, o); e != want || !zero(got) {
		t.Fatalf("%v: %v: %v %d and not %d", c, o, got, e, want)
	}
}

// P8.1: Do

func TestDoOfPeers(t *testing.T) {
	a, b, c, d := api.Member{ID: 2, Key: key(2)}, api.Member{ID: 4, Key: key(4), Off: true}, api.Member{ID: 6}, api.Member{ID: 1}
	begin := api.Config{Peers: []api.Member{a, b, c}}
	for _, x := range []struct {
		o    api.Op
		want []api.Member
	}{
		{api.Op{Kind: api.OpPeer, ID: 1}, []api.Member{d, a, b, c}},
		{api.Op{Kind: api.OpPeer, ID: 3, Key: key(9)}, []api.Member{a, {ID: 3, Key: key(9)}, b, c}},
		{api.Op{Kind: api.OpPeer, ID: 65536, Key: key(9)}, []api.Member{a, b, c, {ID: 65536, Key: key(9)}}},
		{api.Op{Kind: api.OpPeer, ID: 2, Key: key(9)}, []api.Member{{ID: 2, Key: key(9)}, b, c}},
		{api.Op{Kind: api.OpPeer, ID: 4, Key: key(9)}, []api.Member{a, {ID: 4, Key: key(9)}, c}},
		{api.Op{Kind: api.OpPeer, ID: 4, Key: key(4)}, []api.Member{a, {ID: 4, Key: key(4)}, c}},
		{api.Op{Kind: api.OpPeer, ID: 6, Ref: 5}, []api.Member{a, b, c}},
		{api.Op{Kind: api.OpOff, ID: 2}, []api.Member{{ID: 2, Key: key(2), Off: true}, b, c}},
		{api.Op{Kind: api.OpOff, ID: 4}, []api.Member{a, b, c}},
		{api.Op{Kind: api.OpOff, ID: 6}, []api.Member{a, b, {ID: 6, Off: true}}},
		{api.Op{Kind: api.OpDrop, ID: 2}, []api.Member{b, c}},
		{api.Op{Kind: api.OpDrop, ID: 4}, []api.Member{a, c}},
		{api.Op{Kind: api.OpDrop, ID: 6}, []api.Member{a, b}},
	} {
		if got := did(t, begin, x.o); !equal(got, api.Config{Peers: x.want}) {
			t.Errorf("%v: %v and not %v", x.o, got, x.want)
		}
	}
	for _, kind := range []int{api.OpOff, api.OpDrop, api.OpRoute} {
		for _, id := range []int{1, 3, 5, 7, 65536} {
			notDid(t, begin, api.Op{Kind: kind, ID: id}, api.ErrNone)
			notDid(t, api.Config{}, api.Op{Kind: kind, ID: id}, api.ErrNone)
		}
	}
}

func TestDoOfRoutes(t *testing.T) {
	peers := []api.Member{{ID: 1}, {ID: 2}, {ID: 3, Off: true}}
	a, b, c := api.Route{Addr: 0, Bits: 8, Peer: 1}, api.Route{Addr: 1 << 24, Bits: 8, Peer: 2}, api.Route{Addr: 1 << 24, Bits: 16, Peer: 3}
	begin := api.Config{Peers: peers, Routes: []api.Route{a, b, c}}
	for _, x := range []struct {
		o    api.Op
		want []api.Route
	}{
		{api.Op{Kind: api.OpRoute, ID: 3}, []api.Route{{Peer: 3}, a, b, c}},
		{api.Op{Kind: api.OpRoute, ID: 2, Bits: 9}, []api.Route{a, {Bits: 9, Peer: 2}, b, c}},
		{api.Op{Kind: api.OpRoute, ID: 1, Addr: 1 << 24, Bits: 12}, []api.Route{a, b, {Addr: 1 << 24, Bits: 12, Peer: 1}, c}},
		{api.Op{Kind: api.OpRoute, ID: 1, Addr: 1 << 24, Bits: 32}, []api.Route{a, b, c, {Addr: 1 << 24, Bits: 32, Peer: 1}}},
		{api.Op{Kind: api.OpRoute, ID: 1, Addr: 1 << 31, Bits: 1}, []api.Route{a, b, c, {Addr: 1 << 31, Bits: 1, Peer: 1}}},
		{api.Op{Kind: api.OpRoute, ID: 1, Addr: math.MaxUint32, Bits: 32}, []api.Route{a, b, c, {Addr: math.MaxUint32, Bits: 32, Peer: 1}}},
		{api.Op{Kind: api.OpRoute, ID: 3, Bits: 8}, []api.Route{{Bits: 8, Peer: 3}, b, c}},
		{api.Op{Kind: api.OpRoute, ID: 3, Addr: 1 << 24, Bits: 8}, []api.Route{a, {Addr: 1 << 24, Bits: 8, Peer: 3}, c}},
		{api.Op{Kind: api.OpRoute, ID: 3, Addr: 1 << 24, Bits: 16}, []api.Route{a, b, c}},
		{api.Op{Kind: api.OpBlock, Bits: 8}, []api.Route{b, c}},
		{api.Op{Kind: api.OpBlock, Addr: 1 << 24, Bits: 8}, []api.Route{a, c}},
		{api.Op{Kind: api.OpBlock, Addr: 1 << 24, Bits: 16}, []api.Route{a, b}},
	} {
		if got := did(t, begin, x.o); !equal(got, api.Config{Peers: peers, Routes: x.want}) {
			t.Errorf("%v: %v and not %v", x.o, got, x.want)
		}
	}
	for _, o := range []api.Op{{Kind: api.OpBlock}, {Kind: api.OpBlock, Bits: 7}, {Kind: api.OpBlock, Bits: 9}, {Kind: api.OpBlock, Addr: 1 << 25, Bits: 8},
		{Kind: api.OpBlock, Addr: 1 << 24, Bits: 32}, {Kind: api.OpBlock, Addr: math.MaxUint32, Bits: 32}} {
		notDid(t, begin, o, api.ErrNone)
		notDid(t, api.Config{}, o, api.ErrNone)
	}
}

func TestDropRemovesTheRoutesOfThatPeerAlone(t *testing.T) {
	c := full(64, 256)
	for _, m := range c.Peers {
		var want []api.Route
		for _, r := range c.Routes {
			if r.Peer != m.ID {
				want = append(want, r)
			}
		}
		got := did(t, c, api.Op{Kind: api.OpDrop, ID: m.ID})
		if len(got.Peers) != 63 || has(got, m.ID) || len(want) == 256 || !slices.Equal(got.Routes, want) {
			t.Errorf("%d: %v", m.ID, got)
		}
	}
	one := full(1, 256)
	if got := did(t, one, api.Op{Kind: api.OpDrop, ID: one.Peers[0].ID}); !equal(got, api.Config{}) {
		t.Error(got)
	}
}

func TestDoWithoutRoom(t *testing.T) {
	c := full(64, 256)
	for _, id := range []int{1, 537, 65536} {
		notDid(t, c, api.Op{Kind: api.OpPeer, ID: id}, api.ErrFull)
	}
	notDid(t, c, api.Op{Kind: api.OpRoute, ID: 536}, api.ErrFull)
	notDid(t, c, api.Op{Kind: api.OpRoute, ID: 536, Addr: math.MaxUint32, Bits: 32}, api.ErrFull)
	notDid(t, c, api.Op{Kind: api.OpRoute, ID: 1, Addr: math.MaxUint32, Bits: 32}, api.ErrNone) // it is named first
	did(t, c, api.Op{Kind: api.OpPeer, ID: 536, Key: key(99)})
	did(t, c, api.Op{Kind: api.OpPeer, ID: 63536, Key: key(99)})
	did(t, c, api.Op{Kind: api.OpRoute, ID: 536, Addr: c.Routes[255].Addr, Bits: c.Routes[255].Bits})
	for _, room := range []struct{ peers, routes int }{{63, 256}, {64, 255}, {64, 0}} {
		d := full(room.peers, room.routes)
		_, e := does(t, d, api.Op{Kind: api.OpPeer, ID: 65536})
		_, f := does(t, d, api.Op{Kind: api.OpRoute, ID: 536, Addr: math.MaxUint32, Bits: 32})
		if (e == api.OK) != (room.peers < 64) || (f == api.OK) != (room.routes < 256) {
			t.Error(room, e, f)
		}
	}
}

func TestDoErrorsInOrder(t *testing.T) {
	bad := api.Config{Peers: []api.Member{{ID: 2}, {ID: 1}}}
	for _, o := range []api.Op{{}, {Kind: api.OpPeer, ID: 1}, {Kind: api.OpPeer, ID: 3}, {Kind: api.OpOff, ID: 1}, {Kind: api.OpOff, ID: 9}, {Kind: api.OpDrop, ID: 9},
		{Kind: api.OpRoute, ID: 9}, {Kind: api.OpBlock}} {
		notDid(t, bad, o, api.ErrArg)
	}
	for _, c := range changed(example()) {
		if !valid(c) {
			notDid(t, c, api.Op{Kind: api.OpOff, ID: 9}, api.ErrArg)
			notDid(t, c, api.Op{Kind: api.OpPeer, ID: 9}, api.ErrArg)
		}
	}
	all := full(64, 256)
	for _, o := range []api.Op{{}, {Kind: 6, ID: 1}, {Kind: api.OpPeer, ID: 65537}, {Kind: api.OpPeer, ID: 1, Bits: 1}, {Kind: api.OpOff, ID: 0}, {Kind: api.OpOff, ID: 1, Bits: 1},
		{Kind: api.OpDrop, ID: -1}, {Kind: api.OpDrop, ID: 1, Key: key(1)}, {Kind: api.OpRoute, ID: 1, Addr: 1}, {Kind: api.OpRoute, ID: 0}, {Kind: api.OpRoute, ID: 536, Bits: 33},
		{Kind: api.OpBlock, Bits: -1}, {Kind: api.OpBlock, Addr: 5, Bits: 1}, {Kind: api.OpBlock, ID: 1}} {
		notDid(t, all, o, api.ErrArg)
		notDid(t, api.Config{}, o, api.ErrArg)
	}
}

func TestDoOfAllEdges(t *testing.T) {
	known := map[api.Errno]int{}
	for _, c := range some()[:6] {
		for _, o := range ops() {
			if !validOp(o) {
				notDid(t, c, o, api.ErrArg)
				continue
			}
			_, e := does(t, c, o)
			known[e]++
		}
	}
	if known[api.OK] < 100 || known[api.ErrNone] < 100 {
		t.Error(known)
	}
}

// oneOf is a valid operation of a few peers and routes.
func oneOf(r *rand.Rand, peers, depth int) api.Op {
	bits := r.Intn(depth)
	addr := uint32(uint64(r.Uint32()) >> (32 - bits) << (32 - bits))
	id := 1 + r.Intn(peers)
	if r.Intn(10) == 0 {
		id = api.MaxID
	}
	switch kind := 1 + r.Intn(5); kind {
	case api.OpPeer:
		return api.Op{Kind: kind, Ref: r.Uint64(), ID: id, Key: key(byte(r.Intn(3)))}
	case api.OpRoute:
		return api.Op{Kind: kind, Ref: r.Uint64(), ID: id, Addr: addr, Bits: bits}
	case api.OpBlock:
		return api.Op{Kind: kind, Ref: r.Uint64(), Addr: addr, Bits: bits}
	default:
		return api.Op{Kind: kind, Ref: r.Uint64(), ID: id}
	}
}

// Lives of a configuration, small and nearly full ones: P8.3 too, as does checks that what comes out is valid.
func TestLives(t *testing.T) {
	r := rand.New(rand.NewSource(84))
	known := map[api.Errno]int{}
	for _, x := range []struct{ peers, depth, steps int }{{3, 3, 2000}, {10, 5, 2000}, {70, 4, 2000}, {300, 33, 2000}} {
		c := api.Config{}
		for range x.steps {
			o := oneOf(r, x.peers, x.depth)
			// Dropping is rarer, so that tables grow.
			if o.Kind == api.OpDrop && r.Intn(6) > 0 {
				continue
			}
			d, e := does(t, c, o)
			known[e]++
			if e == api.OK {
				c = d
			}
		}
	}
	filled := full(64, 256)
	for range 1000 {
		o := oneOf(r, 3, 30)
		_, e := does(t, filled, o)
		known[e]++
	}
	if known[api.OK] < 1000 || known[api.ErrNone] < 500 || known[api.ErrFull] < 200 {
		t.Error(known)
	}
}

// P8.3

// after is c after a and then b, and whether both succeeded.
func after(c api.Config, a, b api.Op) (api.Config, bool) {
	c, e := config.Do(c, a)
	if e != api.OK {
		return api.Config{}, false
	}
	c, e = config.Do(c, b)
	return c, e == api.OK
}

func TestOperationsOnKeysOfDifferentPeersCommute(t *testing.T) {
	var all []api.Op
	for _, id := range []int{1, 2, 3, 300, 536, 1536, 65536} {
		all = append(all, api.Op{Kind: api.OpPeer, ID: id, Key: key(byte(id))}, api.Op{Kind: api.OpPeer, ID: id}, api.Op{Kind: api.OpOff, ID: id})
	}
	known := map[bool]int{}
	for _, c := range append(some(), full(62, 3), full(63, 3)) {
		for _, a := range all {
			for _, b := range all {
				if a.ID == b.ID {
					continue
				}
				x, ok := after(c, a, b)
				y, also := after(c, b, a)
				known[ok]++
				if ok != also || !config.Same(x, y) {
					t.Fatalf("%v: %v %v: %v and %v", c, a, b, x, y)
				}
			}
		}
	}
	if known[true] < 1000 || known[false] < 500 {
		t.Error(known)
	}
}

func TestTwiceIsOnceOrAnError(t *testing.T) {
	r := rand.New(rand.NewSource(85))
	known := map[api.Errno]int{}
	for _, c := range some() {
		for range 1000 {
			o := oneOf(r, 4, 10)
			once, e := config.Do(c, o)
			if e != api.OK {
				continue
			}
			twice, e := config.Do(once, o)
			known[e]++
			if e == api.OK && !config.Same(once, twice) || e != api.OK && e != api.ErrNone || (e == api.ErrNone) != (o.Kind == api.OpDrop || o.Kind == api.OpBlock) {
				t.Fatalf("%v: %v: %v and %v %d", c, o, once, twice, e)
			}
		}
	}
	if known[api.OK] < 500 || known[api.ErrNone] < 100 {
		t.Error(known)
	}
}

// What a longer route says about its addresses stays, whatever happens to the shorter ones.
func TestShorterRoutesDoNotChangeWhatLongerOnesSay(t *testing.T) {
	r := rand.New(rand.NewSource(86))
	changes := 0
	for range 300 {
		c := nested(r)
		long := c.Routes[r.Intn(len(c.Routes))]
		addr := long.Addr | uint32(uint64(r.Uint32())<<32>>long.Bits>>32)
		for range 20 {
			bits := r.Intn(33)
			o := api.Op{Kind: api.OpRoute, ID: c.Peers[r.Intn(9)].ID, Addr: uint32(uint64(addr) >> (32 - bits) << (32 - bits)), Bits: bits}
			if r.Intn(3) == 0 {
				o.Kind, o.ID = api.OpBlock, 0
			}
			// The route that says something about addr must be a longer one than that which changes.
			if !hasLonger(c, addr, bits) {
				continue
			}
			id, is := config.Lookup(c, addr)
			if d, e := config.Do(c, o); e == api.OK {
				c = d
				changes++
			}
			if now, still := config.Lookup(c, addr); now != id || still != is {
				t.Fatalf("%v: %v: %x: %d and not %d", c, o, addr, now, id)
			}
		}
	}
	if changes < 500 {
		t.Error(changes)
	}
}

// hasLonger reports whether a route with more bits leads to addr.
func hasLonger(c api.Config, addr uint32, bits int) bool {
	return slices.ContainsFunc(c.Routes, func(r api.Route) bool {
		return r.Bits > bits && text(r.Addr)[:r.Bits] == text(addr)[:r.Bits]
	})
}
