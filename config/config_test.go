package config_test

import (
	"math"
	"math/rand"
	"slices"
	"strings"
	"testing"

	"drawbridge/api"
	"drawbridge/config"
)

// The second reading of the chapter: addresses as texts of 32 characters, the highest bit first.

// text is the bits of addr.
func text(addr uint32) string {
	var b strings.Builder
	for i := 31; i >= 0; i-- {
		b.WriteByte("01"[addr>>i&1])
	}
	return b.String()
}

// isPrefix is the chapter's sentence about the Addr and Bits of a route.
func isPrefix(addr uint32, bits int) bool {
	return bits >= 0 && bits <= 32 && !strings.Contains(text(addr)[bits:], "1")
}

// isID is the chapter's sentence about IDs.
func isID(id int) bool {
	return id > 0 && id < 65537
}

// before is the order of routes.
func before(a, b api.Route) bool {
	return a.Addr < b.Addr || a.Addr == b.Addr && a.Bits < b.Bits
}

// valid is the chapter's sentence about a valid configuration: each is held against each.
func valid(c api.Config) bool {
	if len(c.Peers) > 64 || len(c.Routes) > 256 {
		return false
	}
	for i, m := range c.Peers {
		for _, n := range c.Peers[:i] {
			if n.ID >= m.ID {
				return false
			}
		}
		if !isID(m.ID) {
			return false
		}
	}
	for i, r := range c.Routes {
		for _, q := range c.Routes[:i] {
			if !before(q, r) {
				return false
			}
		}
		if !isPrefix(r.Addr, r.Bits) || !has(c, r.Peer) {
			return false
		}
	}
	return true
}

// has reports whether there is a peer with that ID.
func has(c api.Config, id int) bool {
	for _, m := range c.Peers {
		if m.ID == id {
			return true
		}
	}
	return false
}

// validOp is the chapter's table of what the kinds name.
func validOp(o api.Op) bool {
	id, key, addr := isID(o.ID), true, isPrefix(o.Addr, o.Bits)
	if o.Kind == 5 {
		id = o.ID == 0
	}
	if o.Kind != 1 {
		key = o.Key == [32]byte{}
	}
	if o.Kind < 4 {
		addr = o.Addr == 0 && o.Bits == 0
	}
	return o.Kind >= 1 && o.Kind <= 5 && id && key && addr
}

// lookup is the chapter's sentence about the route with the most Bits: each length is tried, the longest first.
func lookup(c api.Config, addr uint32) (int, bool) {
	for bits := 32; bits >= 0; bits-- {
		for _, r := range c.Routes {
			if r.Bits != bits || text(r.Addr)[:bits] != text(addr)[:bits] {
				continue
			}
			for _, m := range c.Peers {
				if m.ID == r.Peer && !m.Off {
					return m.ID, true
				}
			}
			return 0, false
		}
	}
	return 0, false
}

// Configurations

// ip is the address of four bytes, the highest first.
func ip(a, b, c, d uint32) uint32 {
	return a<<24 | b<<16 | c<<8 | d
}

// key is a key whose bytes are all unlike.
func key(x byte) [32]byte {
	var k [32]byte
	for i := range k {
		k[i] = x + byte(i)*7
	}
	return k
}

// example is the configuration of the chapter's examples.
func example() api.Config {
	return api.Config{
		Peers:  []api.Member{{ID: 1, Key: key(1)}, {ID: 2, Key: key(2)}},
		Routes: []api.Route{{Addr: ip(10, 0, 0, 0), Bits: 8, Peer: 1}, {Addr: ip(10, 1, 0, 0), Bits: 16, Peer: 2}},
	}
}

// full is a configuration with that many peers and routes, each third peer Off.
func full(peers, routes int) api.Config {
	var c api.Config
	for i := range peers {
		c.Peers = append(c.Peers, api.Member{ID: 1000*i + 536, Key: key(byte(i)), Off: i%3 == 2})
	}
	for i := range routes {
		c.Routes = append(c.Routes, api.Route{Addr: uint32(i/2) << 20, Bits: 12 + i%2*15, Peer: c.Peers[i*5%peers].ID})
	}
	return c
}

// some are valid configurations that differ in much.
func some() []api.Config {
	return []api.Config{
		{},
		{Peers: []api.Member{{ID: 1}}},
		{Peers: []api.Member{{ID: api.MaxID, Key: key(200), Off: true}}},
		example(),
		{Peers: []api.Member{{ID: 255, Key: key(9), Off: true}, {ID: 256}, {ID: 65535, Key: key(3)}, {ID: 65536, Off: true}}},
		{
			Peers: []api.Member{{ID: 3, Key: key(0)}, {ID: 300, Key: key(100), Off: true}, {ID: 65536, Key: [32]byte{31: 1}}},
			Routes: []api.Route{
				{Bits: 0, Peer: 300}, {Bits: 1, Peer: 3}, {Bits: 32, Peer: 3}, {Addr: 1, Bits: 32, Peer: 65536}, {Addr: 1 << 31, Bits: 1, Peer: 3},
				{Addr: 0xff000000, Bits: 8, Peer: 300}, {Addr: 0xff000000, Bits: 9, Peer: 65536}, {Addr: math.MaxUint32, Bits: 32, Peer: 3},
			},
		},
		full(64, 256),
		full(64, 0),
		full(1, 256),
	}
}

// clone is a copy of c that has no spare capacity.
func clone(c api.Config) api.Config {
	var d api.Config
	d.Peers = append(make([]api.Member, 0, len(c.Peers)), c.Peers...)
	d.Routes = append(make([]api.Route, 0, len(c.Routes)), c.Routes...)
	return d
}

// equal reports whether all fields are, one by one.
func equal(a, b api.Config) bool {
	if len(a.Peers) != len(b.Peers) || len(a.Routes) != len(b.Routes) {
		return false
	}
	for i := range a.Peers {
		if a.Peers[i] != b.Peers[i] {
			return false
		}
	}
	for i := range a.Routes {
		if a.Routes[i] != b.Routes[i] {
			return false
		}
	}
	return true
}

// changed are configurations, valid or not, each of which differs from c in one thing.
func changed(c api.Config) []api.Config {
	var all []api.Config
	change := func(f func(*api.Config)) {
		d := clone(c)
		f(&d)
		all = append(all, d)
	}
	for i := range c.Peers {
		for _, id := range []int{math.MinInt, -1, 0, 1, 2, 3, 65535, 65536, 65537, 65538, 1<<32 + c.Peers[i].ID, math.MaxInt, c.Peers[i].ID + 1, c.Peers[i].ID - 1} {
			change(func(d *api.Config) { d.Peers[i].ID = id })
		}
		change(func(d *api.Config) { d.Peers[i].Off = !d.Peers[i].Off })
		change(func(d *api.Config) { d.Peers[i].Key[0]++ })
		change(func(d *api.Config) { d.Peers[i].Key[31]++ })
		change(func(d *api.Config) { d.Peers = slices.Delete(d.Peers, i, i+1) })
		change(func(d *api.Config) { d.Peers = slices.Insert(d.Peers, i, d.Peers[i]) })
		change(func(d *api.Config) { d.Peers = append(d.Peers, d.Peers[i]) })
		change(func(d *api.Config) { d.Peers[0], d.Peers[i] = d.Peers[i], d.Peers[0] })
	}
	for i, r := range c.Routes {
		for _, addr := range []uint32{0, 1, 1 << 31, math.MaxUint32, r.Addr + 1, r.Addr - 1, r.Addr | 1<<7, r.Addr ^ 1<<24, r.Addr ^ 1<<31} {
			change(func(d *api.Config) { d.Routes[i].Addr = addr })
		}
		for _, bits := range []int{math.MinInt, -1, 0, 1, 31, 32, 33, 64, 1<<32 + r.Bits, math.MaxInt, r.Bits + 1, r.Bits - 1} {
			change(func(d *api.Config) { d.Routes[i].Bits = bits })
		}
		for _, id := range []int{-1, 0, 1, 2, 3, 537, 65536, 65537, 1<<32 + r.Peer, math.MaxInt, r.Peer + 1} {
			change(func(d *api.Config) { d.Routes[i].Peer = id })
		}
		change(func(d *api.Config) { d.Routes = slices.Delete(d.Routes, i, i+1) })
		change(func(d *api.Config) { d.Routes = slices.Insert(d.Routes, i, r) })
		change(func(d *api.Config) { d.Routes = append(d.Routes, r) })
		change(func(d *api.Config) { d.Routes[0], d.Routes[i] = d.Routes[i], d.Routes[0] })
	}
	return all
}

// small is any configuration of a few peers and routes, mostly not valid.
func small(r *rand.Rand) api.Config {
	var c api.Config
	for range r.Intn(4) {
		c.Peers = append(c.Peers, api.Member{ID: r.Intn(5), Key: key(byte(r.Intn(2))), Off: r.Intn(3) == 0})
	}
	for range r.Intn(4) {
		c.Routes = append(c.Routes, api.Route{Addr: uint32(r.Intn(4)) << 30, Bits: r.Intn(4), Peer: r.Intn(5)})
	}
	if r.Intn(2) == 0 {
		slices.SortFunc(c.Peers, func(a, b api.Member) int { return a.ID - b.ID })
		slices.SortFunc(c.Routes, func(a, b api.Route) int { return 8*(int(a.Addr>>30)-int(b.Addr>>30)) + a.Bits - b.Bits })
	}
	return c
}

// Examples

func TestExamples(t *testing.T) {
	var c api.Config
	for _, o := range []api.Op{{Kind: api.OpPeer, ID: 1, Key: key(1)}, {Kind: api.OpPeer, ID: 2, Key: key(2)},
		{Kind: api.OpRoute, ID: 2, Addr: ip(10, 1, 0, 0), Bits: 16}, {Kind: api.OpRoute, ID: 1, Addr: ip(10, 0, 0, 0), Bits: 8}} {
		c = did(t, c, o)
	}
	if !equal(c, example()) {
		t.Fatalf("%v", c)
	}
	leads(t, c, ip(10, 2, 3, 4), 1)
	leads(t, c, ip(10, 1, 2, 3), 2)
	leads(t, c, ip(11, 0, 0, 1), 0)
	c = did(t, c, api.Op{Kind: api.OpOff, ID: 2})
	leads(t, c, ip(10, 1, 2, 3), 0)
	c = did(t, c, api.Op{Kind: api.OpDrop, ID: 2})
	leads(t, c, ip(10, 1, 2, 3), 1)
	notDid(t, c, api.Op{Kind: api.OpRoute, ID: 2, Addr: ip(10, 1, 0, 0), Bits: 16}, api.ErrNone)
}

// leads checks to which peer an address belongs; 0 is nobody.
func leads(t *testing.T, c api.Config, addr uint32, want int) {
	t.Helper()
	if id, is := config.Lookup(c, addr); id != want || is != (want != 0) {
		t.Fatalf("%v: %x: %d %v and not %d", c, addr, id, is, want)
	}
}

// P8.1: Check

func TestNumbers(t *testing.T) {
	if api.MaxID != 65536 || api.MaxPeers != 64 || api.MaxRoutes != 256 {
		t.Error(api.MaxID, api.MaxPeers, api.MaxRoutes)
	}
	if api.OpPeer != 1 || api.OpOff != 2 || api.OpDrop != 3 || api.OpRoute != 4 || api.OpBlock != 5 {
		t.Error(api.OpPeer, api.OpOff, api.OpDrop, api.OpRoute, api.OpBlock)
	}
}

func TestCheck(t *testing.T) {
	for _, c := range some() {
		if e := config.Check(c); e != api.OK || !valid(c) {
			t.Errorf("%v: %d", c, e)
		}
	}
	two := []api.Member{{ID: 1}, {ID: 5}}
	for name, c := range map[string]api.Config{
		"ID 0":               {Peers: []api.Member{{ID: 0}}},
		"ID below 0":         {Peers: []api.Member{{ID: -1}}},
		"ID above MaxID":     {Peers: []api.Member{{ID: 65537}}},
		"ID twice":           {Peers: []api.Member{{ID: 1}, {ID: 1}}},
		"IDs falling":        {Peers: []api.Member{{ID: 2}, {ID: 1}}},
		"the last falls":     {Peers: []api.Member{{ID: 1}, {ID: 3}, {ID: 2}}},
		"too many peers":     full(65, 0),
		"too many routes":    full(3, 257),
		"Bits below 0":       {Peers: two, Routes: []api.Route{{Bits: -1, Peer: 1}}},
		"Bits above 32":      {Peers: two, Routes: []api.Route{{Bits: 33, Peer: 1}}},
		"a bit after 0":      {Peers: two, Routes: []api.Route{{Addr: 1 << 31, Bits: 0, Peer: 1}}},
		"a bit after 31":     {Peers: two, Routes: []api.Route{{Addr: 1, Bits: 31, Peer: 1}}},
		"the next bit":       {Peers: two, Routes: []api.Route{{Addr: 1 << 23, Bits: 8, Peer: 1}}},
		"a route twice":      {Peers: two, Routes: []api.Route{{Bits: 4, Peer: 1}, {Bits: 4, Peer: 5}}},
		"Bits falling":       {Peers: two, Routes: []api.Route{{Bits: 4, Peer: 1}, {Bits: 3, Peer: 1}}},
		"Addr falling":       {Peers: two, Routes: []api.Route{{Addr: 1 << 31, Bits: 1, Peer: 1}, {Addr: 1 << 30, Bits: 2, Peer: 1}}},
		"peer below all":     {Peers: two, Routes: []api.Route{{Bits: 4, Peer: 0}}},
		"peer between them":  {Peers: two, Routes: []api.Route{{Bits: 4, Peer: 3}}},
		"peer above all":     {Peers: two, Routes: []api.Route{{Bits: 4, Peer: 6}}},
		"a route, no peers":  {Routes: []api.Route{{Bits: 4, Peer: 1}}},
		"peer of the second": {Peers: two, Routes: []api.Route{{Bits: 4, Peer: 1}, {Bits: 5, Peer: 2}}},
	} {
		if e := config.Check(c); e != api.ErrArg || valid(c) {
			t.Errorf("%s: %v: %d", name, c, e)
		}
	}
}

// checks checks Check against the chapter's sentence, and counts what it is.
func checks(t *testing.T, c api.Config, known map[bool]int) {
	t.Helper()
	ok := valid(c)
	known[ok]++
	if e := config.Check(c); ok != (e == api.OK) || !ok && e != api.ErrArg {
		t.Fatalf("%v: %d", c, e)
	}
}

func TestCheckOfWhatIsChanged(t *testing.T) {
	known := map[bool]int{}
	for _, c := range some()[:6] {
		for _, d := range changed(c) {
			checks(t, d, known)
		}
	}
	if known[true] < 50 || known[false] < 200 {
		t.Error(known)
	}
}

func TestCheckOfAny(t *testing.T) {
	known := map[bool]int{}
	r := rand.New(rand.NewSource(81))
	for range 200000 {
		checks(t, small(r), known)
	}
	if known[true] < 5000 || known[false] < 50000 {
		t.Error(known)
	}
}

// P8.1: CheckOp

func TestCheckOp(t *testing.T) {
	for _, o := range []api.Op{
		{Kind: api.OpPeer, ID: 1}, {Kind: api.OpPeer, ID: api.MaxID, Key: key(5)}, {Kind: api.OpPeer, Ref: math.MaxUint64, ID: 7},
		{Kind: api.OpOff, ID: 1}, {Kind: api.OpOff, ID: api.MaxID, Ref: 1}, {Kind: api.OpDrop, ID: 1}, {Kind: api.OpDrop, ID: api.MaxID, Ref: 1 << 63},
		{Kind: api.OpRoute, ID: 1}, {Kind: api.OpRoute, ID: api.MaxID, Addr: ip(10, 0, 0, 0), Bits: 8, Ref: 5}, {Kind: api.OpRoute, ID: 1, Addr: math.MaxUint32, Bits: 32},
		{Kind: api.OpBlock}, {Kind: api.OpBlock, Addr: ip(10, 0, 0, 0), Bits: 7, Ref: 6}, {Kind: api.OpBlock, Addr: 1, Bits: 32},
	} {
		if e := config.CheckOp(o); e != api.OK || !validOp(o) {
			t.Errorf("%v: %d", o, e)
		}
	}
	for _, o := range []api.Op{
		{}, {ID: 1}, {Kind: -1, ID: 1}, {Kind: 6, ID: 1}, {Kind: 6}, {Kind: math.MaxInt}, {Kind: 1<<32 + 1, ID: 1},
		{Kind: api.OpPeer}, {Kind: api.OpPeer, ID: -1}, {Kind: api.OpPeer, ID: 65537}, {Kind: api.OpPeer, ID: 1, Addr: 1}, {Kind: api.OpPeer, ID: 1, Bits: 1},
		{Kind: api.OpPeer, ID: 1, Addr: 1 << 31, Bits: 1}, {Kind: api.OpOff}, {Kind: api.OpOff, ID: 65537}, {Kind: api.OpOff, ID: 1, Key: [32]byte{31: 1}},
		{Kind: api.OpOff, ID: 1, Bits: 8}, {Kind: api.OpOff, ID: 1, Addr: 1, Bits: 32}, {Kind: api.OpDrop}, {Kind: api.OpDrop, ID: -5}, {Kind: api.OpDrop, ID: 1, Key: [32]byte{1}},
		{Kind: api.OpDrop, ID: 1, Bits: 32}, {Kind: api.OpDrop, ID: 1, Addr: 1, Bits: 32}, {Kind: api.OpRoute, Addr: ip(10, 0, 0, 0), Bits: 8}, {Kind: api.OpRoute, ID: 65537},
		{Kind: api.OpRoute, ID: 1, Key: [32]byte{1}}, {Kind: api.OpRoute, ID: 1, Bits: -1}, {Kind: api.OpRoute, ID: 1, Bits: 33}, {Kind: api.OpRoute, ID: 1, Addr: 1, Bits: 31},
		{Kind: api.OpRoute, ID: 1, Addr: 1 << 31}, {Kind: api.OpBlock, ID: 1}, {Kind: api.OpBlock, ID: -1}, {Kind: api.OpBlock, Key: [32]byte{15: 1}}, {Kind: api.OpBlock, Bits: -1},
		{Kind: api.OpBlock, Bits: 33}, {Kind: api.OpBlock, Addr: 1 << 23, Bits: 8}, {Kind: api.OpBlock, Bits: math.MinInt}, {Kind: api.OpBlock, Bits: math.MaxInt},
	} {
		if e := config.CheckOp(o); e != api.ErrArg || validOp(o) {
			t.Errorf("%v: %d", o, e)
		}
	}
}

// ops are all operations whose fields have a few values each, valid or not.
func ops() []api.Op {
	var all []api.Op
	for _, kind := range []int{math.MinInt, -1, 0, 1, 2, 3, 4, 5, 6, 1<<32 + 1, math.MaxInt} {
		for _, id := range []int{math.MinInt, -1, 0, 1, 2, 300, 65535, 65536, 65537, 1<<32 + 1, math.MaxInt} {
			for _, k := range [][32]byte{{}, {1}, {31: 1}, key(7)} {
				for _, addr := range []uint32{0, 1, 2, 1 << 24, 1 << 31, 3 << 30, ip(10, 1, 0, 0), math.MaxUint32 - 1, math.MaxUint32} {
					for _, bits := range []int{math.MinInt, -1, 0, 1, 2, 8, 15, 16, 31, 32, 33, 1<<32 + 8, math.MaxInt} {
						all = append(all, api.Op{Kind: kind, Ref: uint64(len(all)) << (len(all) % 50), ID: id, Key: k, Addr: addr, Bits: bits})
					}
				}
			}
		}
	}
	return all
}

func TestCheckOpOfAllEdges(t *testing.T) {
	known := map[int]int{}
	for _, o := range ops() {
		e := config.CheckOp(o)
		if ok := validOp(o); ok != (e == api.OK) || !ok && e != api.ErrArg {
			t.Fatalf("%v: %d", o, e)
		}
		if e == api.OK {
			known[o.Kind]++
		}
	}
	if known[1] < 20 || known[2] != 5 || known[3] != 5 || known[4] < 100 || known[5] < 20 {
		t.Error(known)
	}
}

// P8.1: Member, Lookup, Mask

func TestMember(t *testing.T) {
	for _, c := range some() {
		for _, m := range c.Peers {
			if got, is := config.Member(c, m.ID); got != m || !is {
				t.Errorf("%d: %v %v and not %v", m.ID, got, is, m)
			}
		}
		for _, id := range []int{math.MinInt, -1, 0, 1, 2, 3, 4, 299, 301, 65534, 65535, 65536, 65537, 1<<32 + 1, math.MaxInt} {
			if got, is := config.Member(c, id); is != has(c, id) || !is && got != (api.Member{}) {
				t.Errorf("%d: %v %v", id, got, is)
			}
		}
	}
}

// The chapter does not ask for a valid configuration there: the first of those that are asked for counts.
func TestMemberOfConfigurationsThatAreNotValid(t *testing.T) {
	c := api.Config{Peers: []api.Member{{ID: 9, Key: key(1)}, {ID: 4, Key: key(2)}, {ID: 9, Key: key(3)}, {ID: 4, Off: true}, {ID: -7}, {ID: 4}}}
	for _, x := range []struct{ id, at int }{{9, 0}, {4, 1}, {-7, 4}} {
		if m, is := config.Member(c, x.id); m != c.Peers[x.at] || !is {
			t.Errorf("%d: %v %v", x.id, m, is)
		}
	}
	if m, is := config.Member(c, 5); m != (api.Member{}) || is {
		t.Error(m, is)
	}
	large := full(1000, 0)
	for i := range large.Peers {
		if m, is := config.Member(large, large.Peers[i].ID); m != large.Peers[i] || !is {
			t.Error(i, m, is)
		}
	}
}

func TestLookup(t *testing.T) {
	c := api.Config{
		Peers: []api.Member{{ID: 1}, {ID: 2}, {ID: 3, Off: true}, {ID: 65536}},
		Routes: []api.Route{
			{Addr: ip(10, 0, 0, 0), Bits: 8, Peer: 1}, {Addr: ip(10, 0, 0, 0), Bits: 16, Peer: 2}, {Addr: ip(10, 0, 0, 0), Bits: 32, Peer: 65536},
			{Addr: ip(10, 0, 7, 0), Bits: 24, Peer: 3}, {Addr: ip(10, 0, 7, 9), Bits: 32, Peer: 1}, {Addr: ip(10, 0, 8, 0), Bits: 21, Peer: 3},
			{Addr: ip(255, 255, 255, 254), Bits: 31, Peer: 2}, {Addr: ip(255, 255, 255, 255), Bits: 32, Peer: 65536},
		},
	}
	for _, x := range []struct {
		addr uint32
		id   int
	}{
		{ip(10, 0, 0, 0), 65536}, {ip(10, 0, 0, 1), 2}, {ip(10, 0, 255, 255), 2}, {ip(10, 1, 0, 0), 1}, {ip(10, 255, 255, 255), 1},
		{ip(9, 255, 255, 255), 0}, {ip(11, 0, 0, 0), 0}, {0, 0}, {ip(10, 0, 7, 0), 0}, {ip(10, 0, 7, 8), 0}, {ip(10, 0, 7, 9), 1}, {ip(10, 0, 7, 255), 0},
		{ip(10, 0, 8, 0), 0}, {ip(10, 0, 15, 255), 0}, {ip(10, 0, 16, 0), 2}, {ip(10, 0, 6, 255), 2}, {ip(255, 255, 255, 255), 65536},
		{ip(255, 255, 255, 254), 2}, {ip(255, 255, 255, 253), 0}, {ip(127, 255, 255, 255), 0}, {ip(138, 0, 0, 0), 0},
	} {
		leads(t, c, x.addr, x.id)
	}
	c.Routes = append([]api.Route{{Bits: 0, Peer: 2}, {Bits: 1, Peer: 65536}}, c.Routes...)
	leads(t, c, 0, 65536)
	leads(t, c, ip(127, 255, 255, 255), 65536)
	leads(t, c, ip(128, 0, 0, 0), 2)
	leads(t, c, ip(10, 3, 0, 0), 1)
	leads(t, c, ip(10, 0, 7, 8), 0)
}

// addresses are those at which something might change in c, and some others.
func addresses(c api.Config, r *rand.Rand) []uint32 {
	all := []uint32{0, 1, 1 << 31, 1<<31 - 1, math.MaxUint32, r.Uint32(), r.Uint32()}
	for _, q := range c.Routes {
		all = append(all, q.Addr, q.Addr-1, q.Addr+1, q.Addr|1<<31>>max(q.Bits, 0), q.Addr^1<<(32-max(q.Bits, 1)), q.Addr^uint32(r.Uint64()>>32>>max(q.Bits, 0)), q.Addr^1<<r.Intn(32))
	}
	return all
}

func TestLookupOfManyAddresses(t *testing.T) {
	r := rand.New(rand.NewSource(82))
	known := map[bool]int{}
	for _, c := range append(some(), nested(r), nested(r), nested(r)) {
		if !valid(c) {
			t.Fatal(c)
		}
		for _, addr := range addresses(c, r) {
			id, is := lookup(c, addr)
			known[is]++
			leads(t, c, addr, id)
		}
	}
	if known[true] < 1000 || known[false] < 500 {
		t.Error(known)
	}
}

// nested is a valid configuration of routes, most of which are parts of others.
func nested(r *rand.Rand) api.Config {
	c := full(9, 0)
	there := map[[2]uint32]bool{}
	for range 200 {
		bits := r.Intn(33)
		addr := uint32(uint64(0xa5a5a5a5^1<<r.Intn(32)) >> (32 - bits) << (32 - bits))
		if !there[[2]uint32{addr, uint32(bits)}] {
			there[[2]uint32{addr, uint32(bits)}] = true
			c.Routes = append(c.Routes, api.Route{Addr: addr, Bits: bits, Peer: c.Peers[r.Intn(9)].ID})
		}
	}
	slices.SortFunc(c.Routes, func(a, b api.Route) int {
		if before(a, b) {
			return -1
		}
		return 1
	})
	return c
}

// The chapter does not ask for a valid configuration there: the first of those with the most Bits counts, and its peer
// must be there.
func TestLookupOfConfigurationsThatAreNotValid(t *testing.T) {
	c := api.Config{
		Peers:  []api.Member{{ID: 5}, {ID: 2}, {ID: 3, Off: true}, {ID: 3}},
		Routes: []api.Route{{Addr: ip(10, 0, 0, 0), Bits: 8, Peer: 5}, {Addr: ip(10, 0, 0, 0), Bits: 8, Peer: 2}, {Addr: 0, Bits: 2, Peer: 2}, {Addr: ip(20, 0, 0, 0), Bits: 8, Peer: 4}, {Addr: ip(30, 0, 0, 0), Bits: 8, Peer: 3}},
	}
	leads(t, c, ip(10, 0, 0, 1), 5)
	leads(t, c, ip(1, 0, 0, 1), 2)
	leads(t, c, ip(20, 0, 0, 1), 0)
	leads(t, c, ip(30, 0, 0, 1), 0)
	leads(t, c, ip(64, 0, 0, 0), 0)
}

func TestMask(t *testing.T) {
	for bits, want := range []uint32{0, 0x80000000, 0xc0000000, 0xe0000000, 0xf0000000, 0xf8000000, 0xfc000000, 0xfe000000, 0xff000000} {
		if got := config.Mask(bits); got != want {
			t.Errorf("%d: %x and not %x", bits, got, want)
		}
	}
	for bits := range 33 {
		if want := strings.Repeat("1", bits) + strings.Repeat("0", 32-bits); text(config.Mask(bits)) != want {
			t.Errorf("%d: %x", bits, config.Mask(bits))
		}
	}
	for _, bits := range []int{-1, -2, -31, -32, -33, -64, math.MinInt, math.MinInt + 1, math.MinInt + 32, -1 << 32, -1<<32 + 8} {
		if got := config.Mask(bits); got != 0 {
			t.Errorf("%d: %x", bits, got)
		}
	}
	for _, bits := range []int{33, 34, 63, 64, 65, 96, 1 << 32, 1<<32 + 8, math.MaxInt - 1, math.MaxInt} {
		if got := config.Mask(bits); got != math.MaxUint32 {
			t.Errorf("%d: %x", bits, got)
		}
	}
}

// P8.2: Same and Copy

func TestSame(t *testing.T) {
	all := some()
	for i, c := range all {
		for j, d := range all {
			if config.Same(c, d) != (i == j) {
				t.Errorf("%v %v", c, d)
			}
		}
		if !config.Same(c, clone(c)) || !config.Same(clone(c), c) {
			t.Errorf("%v", c)
		}
	}
	for _, c := range all[:6] {
		for _, d := range changed(c) {
			if config.Same(c, d) != equal(c, d) || config.Same(d, c) != equal(c, d) || !config.Same(d, clone(d)) {
				t.Errorf("%v %v", c, d)
			}
		}
	}
}

func TestSameOfEachByteOfAKey(t *testing.T) {
	for i := range 32 {
		d := example()
		d.Peers[1].Key[i] ^= 1
		if config.Same(d, example()) || config.Same(example(), d) {
			t.Error(i)
		}
	}
}

func TestCopy(t *testing.T) {
	for _, c := range some() {
		if d := config.Copy(c); !equal(c, d) {
			t.Errorf("%v: %v", c, d)
		}
	}
	for _, c := range changed(some()[5]) {
		if d := config.Copy(c); !equal(c, d) {
			t.Errorf("%v: %v", c, d)
		}
	}
}

// Rules 3 and 4

// spoil changes all of the memory of c, its spare capacity too.
func spoil(c api.Config) {
	for i := range c.Peers[:cap(c.Peers)] {
		c.Peers[:cap(c.Peers)][i] = api.Member{ID: -77, Key: key(77), Off: true}
	}
	for i := range c.Routes[:cap(c.Routes)] {
		c.Routes[:cap(c.Routes)][i] = api.Route{Addr: 77, Bits: -77, Peer: -77}
	}
}

// roomy is c with spare capacity that is full of something.
func roomy(c api.Config) api.Config {
	d := api.Config{Peers: make([]api.Member, len(c.Peers)+9), Routes: make([]api.Route, len(c.Routes)+9)}
	spoil(d)
	copy(d.Peers, c.Peers)
	copy(d.Routes, c.Routes)
	return api.Config{Peers: d.Peers[:len(c.Peers)], Routes: d.Routes[:len(c.Routes)]}
}

// spare is the whole memory of c as a configuration.
func spare(c api.Config) api.Config {
	return api.Config{Peers: c.Peers[:cap(c.Peers)], Routes: c.Routes[:cap(c.Routes)]}
}

// isNew checks that got shares nothing with c, has nothing in its spare capacity, and that c is still was.
func isNew(t *testing.T, got, c, was api.Config) {
	t.Helper()
	for _, m := range got.Peers[len(got.Peers):cap(got.Peers)] {
		if m != (api.Member{}) {
			t.Fatalf("spare: %v", m)
		}
	}
	for _, r := range got.Routes[len(got.Routes):cap(got.Routes)] {
		if r != (api.Route{}) {
			t.Fatalf("spare: %v", r)
		}
	}
	want := clone(got)
	spoil(got)
	if !equal(spare(c), was) {
		t.Fatalf("%v and not %v", spare(c), was)
	}
	got = clone(want)
	spoil(c)
	if !equal(got, want) {
		t.Fatalf("%v and not %v", got, want)
	}
}

func TestCopyIsNewMemory(t *testing.T) {
	for _, c := range some() {
		d := roomy(c)
		was := clone(spare(d))
		got := config.Copy(d)
		later := clone(got)
		isNew(t, got, d, was)
		spoil(d)
		if again := config.Copy(roomy(c)); !equal(later, c) || !equal(again, c) {
			t.Fatalf("%v and not %v", again, c)
		}
	}
}

func TestQuestionsReadNoSpareCapacity(t *testing.T) {
	for _, c := range some() {
		d := roomy(c)
		was := clone(spare(d))
		r := rand.New(rand.NewSource(83))
		if config.Check(d) != api.OK || !config.Same(c, d) || !config.Same(d, c) {
			t.Errorf("%v", c)
		}
		if m, is := config.Member(d, -77); m != (api.Member{}) || is {
			t.Errorf("%v", m)
		}
		for _, addr := range append(addresses(c, r), 77) {
			id, _ := lookup(c, addr)
			leads(t, d, addr, id)
		}
		if !equal(spare(d), was) {
			t.Errorf("%v and not %v", spare(d), was)
		}
	}
}

func TestNilAndEmptyAreTheSame(t *testing.T) {
	empty := api.Config{Peers: []api.Member{}, Routes: make([]api.Route, 0, 5)}
	if !config.Same(empty, api.Config{}) || !config.Same(api.Config{}, empty) || config.Check(empty) != api.OK {
		t.Error("empty")
	}
	if d := config.Copy(empty); len(d.Peers) != 0 || len(d.Routes) != 0 {
		t.Error(d)
	}
	leads(t, empty, 0, 0)
	if m, is := config.Member(empty, 0); m != (api.Member{}) || is {
		t.Error(m)
	}
	one := did(t, empty, api.Op{Kind: api.OpPeer, ID: 4})
	if !equal(one, api.Config{Peers: []api.Member{{ID: 4}}}) {
		t.Error(one)
	}
	a, _ := config.Bytes(empty)
	if string(a) != "\x00\x00" {
		t.Errorf("%x", a)
	}
}
