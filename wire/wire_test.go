package wire_test

import (
	"bytes"
	"math"
	"math/big"
	"slices"
	"strings"
	"testing"

	"drawbridge/api"
	"drawbridge/config"
	"drawbridge/wire"
)

// The second reading of the chapter: its tables of fields, as texts.

// hasEntry are the fields of a kind of entries, in the order of their bytes; none for what is no kind.
func hasEntry(kind int) []string {
	switch kind {
	case 1:
		return strings.Fields("Kind Epoch Index Op")
	case 2:
		return strings.Fields("Kind Epoch Index ID Peer Secret")
	case 3:
		return strings.Fields("Kind Epoch Index ID")
	}
	return nil
}

// has are the fields of a kind of messages, in the order of the table; none for what is no kind.
func has(kind int) []string {
	switch kind {
	case 1:
		return strings.Fields("Kind Epoch Index Upto")
	case 2:
		return strings.Fields("Kind Epoch Index Prev Entries Upto")
	case 3:
		return strings.Fields("Kind Epoch Index Is")
	case 4:
		return strings.Fields("Kind Ref")
	case 5:
		return strings.Fields("Kind Ref Epoch Node")
	case 6:
		return strings.Fields("Kind Ref Epoch Node")
	case 7:
		return strings.Fields("Kind Epoch Index Prev Body")
	}
	return nil
}

// field is one field of a value: whether it is zero, and whether it is what the chapter asks for if the kind has it.
type field struct {
	name       string
	zero, good bool
}

// faultOf is the first field that a value of the kind that has these may not have; none of a valid one.
func faultOf(has []string, all []field) string {
	if has == nil {
		return "Kind"
	}
	for _, x := range all {
		if named := slices.Contains(has, x.name); named && !x.good || !named && !x.zero {
			return x.name
		}
	}
	return ""
}

func validEntry(e api.Entry) bool {
	return faultOf(hasEntry(e.Kind), []field{
		{"Epoch", e.Epoch == 0, e.Epoch > 0},
		{"Index", e.Index == 0, e.Index > 0},
		{"Op", e.Op == api.Op{}, config.CheckOp(e.Op) == api.OK},
		{"ID", e.Session.ID == 0, e.Session.ID > 0},
		{"Peer", e.Session.Peer == 0, e.Session.Peer > 0 && e.Session.Peer < 65537},
		{"Secret", e.Session.Secret == [32]byte{}, true},
	}) == ""
}

// validLog is the chapter's sentence about the Entries of a MsgAppend: each is held against all before it.
func validLog(m api.Msg) bool {
	for i, e := range m.Entries {
		want := new(big.Int).SetUint64(m.Index)
		want.Add(want, big.NewInt(int64(i)+1))
		if !validEntry(e) || new(big.Int).SetUint64(e.Index).Cmp(want) != 0 || e.Epoch < m.Prev || e.Epoch > m.Epoch {
			return false
		}
		for _, before := range m.Entries[:i] {
			if before.Epoch > e.Epoch {
				return false
			}
		}
	}
	return true
}

// wrong is the error of Check.
func wrong(m api.Msg) api.Errno {
	if len(m.Entries) > 32 || len(m.Body) > 1048576 {
		return api.ErrLong
	}
	node := m.Node == 1 || m.Node == 2 || m.Node == 0 && m.Kind == 6
	if faultOf(has(m.Kind), []field{
		{"Epoch", m.Epoch == 0, true},
		{"Index", m.Index == 0, m.Kind != 2 || m.Index < 1<<62+1},
		{"Prev", m.Prev == 0, true},
		{"Upto", m.Upto == 0, true},
		{"Ref", m.Ref == 0, true},
		{"Node", m.Node == 0, node},
		{"Is", !m.Is, true},
		{"Entries", len(m.Entries) == 0, validLog(m)},
		{"Body", len(m.Body) == 0, true},
	}) != "" {
		return api.ErrArg
	}
	return api.OK
}

// equalEntry reports whether all fields are, byte by byte.
func equalEntry(a, b api.Entry) bool {
	for i := range 32 {
		if a.Op.Key[i] != b.Op.Key[i] || a.Session.Secret[i] != b.Session.Secret[i] {
			return false
		}
	}
	return a.Kind == b.Kind && a.Epoch == b.Epoch && a.Index == b.Index && a.Op.Kind == b.Op.Kind && a.Op.Ref == b.Op.Ref &&
		a.Op.ID == b.Op.ID && a.Op.Addr == b.Op.Addr && a.Op.Bits == b.Op.Bits && a.Session.ID == b.Session.ID &&
		a.Session.Peer == b.Session.Peer
}

// equal reports whether all fields are, byte by byte.
func equal(a, b api.Msg) bool {
	if len(a.Entries) != len(b.Entries) || len(a.Body) != len(b.Body) {
		return false
	}
	for i := range a.Entries {
		if !equalEntry(a.Entries[i], b.Entries[i]) {
			return false
		}
	}
	for i := range a.Body {
		if a.Body[i] != b.Body[i] {
			return false
		}
	}
	return a.Kind == b.Kind && a.Epoch == b.Epoch && a.Index == b.Index && a.Prev == b.Prev && a.Upto == b.Upto &&
		a.Ref == b.Ref && a.Node == b.Node && a.Is == b.Is
}

// nothing reports whether m is the zero message, without any memory.
func nothing(m api.Msg) bool {
	return equal(m, api.Msg{}) && cap(m.Entries) == 0 && cap(m.Body) == 0
}

// Messages

// some are n bytes, any 251 of which in a row differ.
func some(n int) []byte {
	b := make([]byte, n)
	for i := range b {
		b[i] = byte(i % 251)
	}
	return b
}

// log are n entries of all kinds that follow an Index, from that epoch on, each third one of the next epoch.
func log(n int, index uint64, epoch uint32) []api.Entry {
	var all []api.Entry
	for i := range n {
		e := entries()[i*5%len(entries())]
		e.Index, e.Epoch = index+1+uint64(i), epoch+uint32(i/3)
		all = append(all, e)
	}
	return all
}

// msgs are valid messages that differ in much.
func msgs() []api.Msg {
	return []api.Msg{
		{Kind: api.MsgBeat},
		{Kind: api.MsgBeat, Epoch: 3, Index: 700, Upto: 500},
		{Kind: api.MsgBeat, Epoch: math.MaxUint32, Index: math.MaxUint64, Upto: math.MaxUint64 - 1},
		{Kind: api.MsgAppend},
		{Kind: api.MsgAppend, Epoch: 2, Index: 9, Prev: 1, Upto: 4},
		{Kind: api.MsgAppend, Epoch: 1, Index: 1 << 62, Prev: math.MaxUint32, Upto: math.MaxUint64},
		{Kind: api.MsgAppend, Epoch: 5, Index: 2, Prev: 3, Upto: 1, Entries: log(4, 2, 3)},
		{Kind: api.MsgAppend, Epoch: 1, Entries: log(1, 0, 1)},
		{Kind: api.MsgAppend, Epoch: math.MaxUint32, Index: 1 << 62, Prev: 300, Upto: 1 << 63, Entries: log(3, 1<<62, 70000)},
		{Kind: api.MsgAppend, Epoch: 21, Index: 250, Prev: 9, Upto: 250, Entries: log(32, 250, 10)},
		{Kind: api.MsgHave},
		{Kind: api.MsgHave, Epoch: 256, Index: 8, Is: true},
		{Kind: api.MsgHave, Epoch: math.MaxUint32, Index: math.MaxUint64},
		{Kind: api.MsgAsk},
		{Kind: api.MsgAsk, Ref: 7},
		{Kind: api.MsgAsk, Ref: math.MaxUint64},
		{Kind: api.MsgClaim, Node: 1},
		{Kind: api.MsgClaim, Ref: 8, Epoch: 1, Node: 2},
		{Kind: api.MsgClaim, Ref: math.MaxUint64, Epoch: math.MaxUint32, Node: 1},
		{Kind: api.MsgTold},
		{Kind: api.MsgTold, Ref: 9},
		{Kind: api.MsgTold, Ref: 10, Epoch: 4},
		{Kind: api.MsgTold, Ref: 11, Node: 1},
		{Kind: api.MsgTold, Ref: math.MaxUint64, Epoch: math.MaxUint32, Node: 2},
		{Kind: api.MsgBase},
		{Kind: api.MsgBase, Epoch: 2, Index: 40, Prev: 1, Body: some(300)},
		{Kind: api.MsgBase, Epoch: 1, Index: math.MaxUint64, Prev: math.MaxUint32, Body: []byte{0}},
	}
}

// edges are messages, valid or not, of all that the fields may be where something changes.
func edges() []api.Msg {
	var all []api.Msg
	for kind := -1; kind <= 9; kind++ {
		for _, epoch := range []uint32{0, 1, 2, math.MaxUint32} {
			for _, index := range []uint64{0, 1, 1 << 62, 1<<62 + 1, math.MaxUint64} {
				for _, node := range []int{-1, 0, 1, 2, 3} {
					for _, is := range []bool{false, true} {
						all = append(all, rest(api.Msg{Kind: kind, Epoch: epoch, Index: index, Node: node, Is: is})...)
					}
				}
			}
		}
	}
	return all
}

// rest are m with each Prev, Upto, Ref, Body and Entries of edges.
func rest(m api.Msg) []api.Msg {
	var all []api.Msg
	for _, prev := range []uint32{0, 1, 3} {
		for _, upto := range []uint64{0, 1} {
			for _, ref := range []uint64{0, math.MaxUint64} {
				for _, size := range []int{0, 1} {
					for _, list := range [][]api.Entry{nil, log(1, m.Index, 1), log(2, m.Index, 3)} {
						m.Prev, m.Upto, m.Ref, m.Body, m.Entries = prev, upto, ref, make([]byte, size), list
						all = append(all, m)
					}
				}
			}
		}
	}
	return all
}

// changed are messages, valid or not, each of which differs from m in one field at most, or in one of its entries.
func changed(m api.Msg) []api.Msg {
	var all []api.Msg
	change := func(f func(*api.Msg)) {
		n := m
		n.Entries = slices.Clone(m.Entries)
		f(&n)
		all = append(all, n)
	}
	for _, x := range numbers() {
		change(func(n *api.Msg) { n.Index = x })
		change(func(n *api.Msg) { n.Upto = x })
		change(func(n *api.Msg) { n.Ref = x })
		change(func(n *api.Msg) { n.Epoch = uint32(x) })
		change(func(n *api.Msg) { n.Prev = uint32(x) })
	}
	for _, x := range integers() {
		change(func(n *api.Msg) { n.Kind = x })
		change(func(n *api.Msg) { n.Node = x })
	}
	change(func(n *api.Msg) { n.Is = !n.Is })
	for _, x := range []int{0, 1, 2, 255, 256, 299, 300, 301} {
		change(func(n *api.Msg) { n.Body = some(x) })
	}
	for i := range m.Body {
		change(func(n *api.Msg) { n.Body = bytes.Clone(n.Body); n.Body[i] ^= 0x10 })
	}
	for _, x := range []int{0, 1, 2, 3, 31, 32, 33, 40} {
		change(func(n *api.Msg) { n.Entries = log(x, n.Index, max(n.Prev, 1)) })
	}
	for i := range m.Entries {
		change(func(n *api.Msg) { n.Entries = slices.Delete(n.Entries, i, i+1) })
		change(func(n *api.Msg) { n.Entries = n.Entries[i:] })
		change(func(n *api.Msg) { n.Entries = n.Entries[:i] })
		change(func(n *api.Msg) { n.Entries = slices.Insert(n.Entries, i, n.Entries[i]) })
		change(func(n *api.Msg) { n.Entries[0], n.Entries[i] = n.Entries[i], n.Entries[0] })
		change(func(n *api.Msg) { n.Entries[i] = api.Entry{} })
	}
	for i := range min(len(m.Entries), 4) {
		for _, e := range changedEntry(m.Entries[i]) {
			change(func(n *api.Msg) { n.Entries[i] = e })
		}
	}
	return all
}

// numbers are those at which something changes, in a field or in its bytes.
func numbers() []uint64 {
	all := []uint64{0, 1, 2, 3, 4, 5, 9, 10, 20, 21, 255, 300, 70000, math.MaxUint64}
	for _, bit := range []int{8, 16, 24, 31, 32, 33, 48, 56, 60, 62, 63} {
		all = append(all, 1<<bit-1, 1<<bit, 1<<bit+1)
	}
	return all
}

// integers are likewise those of a Kind, of a Node or of a Peer.
func integers() []int {
	return []int{math.MinInt, math.MinInt32, -65536, -256, -2, -1, 0, 1, 2, 3, 4, 5, 6, 7, 8, 9, 255, 256, 257, 258, 259, 300, 65535, 65536,
		65537, 65538, 1 << 31, 1 << 32, 1<<32 + 1, 1<<32 + 2, 1<<32 + 3, 1<<32 + 7, math.MaxInt}
}

// Examples

func TestExamples(t *testing.T) {
	b, e := wire.Bytes(api.Msg{Kind: api.MsgAsk, Ref: 7})
	if !bytes.Equal(b, []byte{1, 4, 0, 0, 0, 0, 1, 7, 0, 0, 0, 0}) || e != api.OK {
		t.Errorf("%x %d", b, e)
	}
	list := log(3, 2, 1)
	if e := wire.Check(api.Msg{Kind: api.MsgAppend, Epoch: 9, Index: 2, Entries: []api.Entry{list[0], list[2]}}); e != api.ErrArg {
		t.Error(e)
	}
}

func TestLimitsAndKinds(t *testing.T) {
	if api.MaxEntries != 32 || api.MaxBlock != 1<<20 || api.MaxID != 1<<16 {
		t.Error(api.MaxEntries, api.MaxBlock, api.MaxID)
	}
	if all := []int{api.MsgBeat, api.MsgAppend, api.MsgHave, api.MsgAsk, api.MsgClaim, api.MsgTold, api.MsgBase}; !slices.Equal(all, []int{1, 2, 3, 4, 5, 6, 7}) {
		t.Error(all)
	}
	if all := []int{api.EntOp, api.EntOpen, api.EntShut}; !slices.Equal(all, []int{1, 2, 3}) {
		t.Error(all)
	}
}

// P11.1: Check

func TestCheck(t *testing.T) {
	for _, m := range msgs() {
		if e := wire.Check(m); e != api.OK {
			t.Errorf("%v: %d", m, e)
		}
	}
	for _, m := range []api.Msg{
		{},
		{Kind: -1},
		{Kind: 8},
		{Kind: 8, Ref: 1},
		{Kind: api.MsgBeat, Prev: 1},
		{Kind: api.MsgBeat, Ref: 1},
		{Kind: api.MsgBeat, Node: 1},
		{Kind: api.MsgBeat, Is: true},
		{Kind: api.MsgBeat, Epoch: 1, Entries: log(1, 0, 1)},
		{Kind: api.MsgBeat, Body: []byte{0}},
		{Kind: api.MsgAppend, Ref: 1},
		{Kind: api.MsgAppend, Node: 2},
		{Kind: api.MsgAppend, Is: true},
		{Kind: api.MsgAppend, Body: []byte{0}},
		{Kind: api.MsgAppend, Index: 1<<62 + 1},
		{Kind: api.MsgAppend, Index: math.MaxUint64},
		{Kind: api.MsgHave, Prev: 1},
		{Kind: api.MsgHave, Upto: 1},
		{Kind: api.MsgHave, Ref: 1},
		{Kind: api.MsgHave, Node: 1},
		{Kind: api.MsgHave, Epoch: 1, Entries: log(1, 0, 1)},
		{Kind: api.MsgHave, Body: []byte{0}},
		{Kind: api.MsgAsk, Epoch: 1},
		{Kind: api.MsgAsk, Index: 1},
		{Kind: api.MsgAsk, Prev: 1},
		{Kind: api.MsgAsk, Upto: 1},
		{Kind: api.MsgAsk, Node: 1},
		{Kind: api.MsgAsk, Is: true},
		{Kind: api.MsgAsk, Entries: log(1, 0, 1)},
		{Kind: api.MsgAsk, Body: []byte{0}},
		{Kind: api.MsgClaim},
		{Kind: api.MsgClaim, Ref: 1, Epoch: 1},
		{Kind: api.MsgClaim, Node: 3},
		{Kind: api.MsgClaim, Node: -1},
		{Kind: api.MsgClaim, Node: 1, Index: 1},
		{Kind: api.MsgClaim, Node: 1, Prev: 1},
		{Kind: api.MsgClaim, Node: 1, Upto: 1},
		{Kind: api.MsgClaim, Node: 1, Is: true},
		{Kind: api.MsgClaim, Node: 1, Epoch: 1, Entries: log(1, 0, 1)},
		{Kind: api.MsgClaim, Node: 1, Body: []byte{0}},
		{Kind: api.MsgTold, Node: 3},
		{Kind: api.MsgTold, Node: -1},
		{Kind: api.MsgTold, Index: 1},
		{Kind: api.MsgTold, Prev: 1},
		{Kind: api.MsgTold, Upto: 1},
		{Kind: api.MsgTold, Is: true},
		{Kind: api.MsgTold, Epoch: 1, Entries: log(1, 0, 1)},
		{Kind: api.MsgTold, Body: []byte{0}},
		{Kind: api.MsgBase, Upto: 1},
		{Kind: api.MsgBase, Ref: 1},
		{Kind: api.MsgBase, Node: 1},
		{Kind: api.MsgBase, Is: true},
		{Kind: api.MsgBase, Epoch: 1, Entries: log(1, 0, 1)},
	} {
		if e := wire.Check(m); e != api.ErrArg {
			t.Errorf("%v: %d", m, e)
		}
	}
}

func TestCheckOfAllEdges(t *testing.T) {
	known := map[api.Errno]int{}
	check := func(m api.Msg) {
		known[wrong(m)]++
		if e := wire.Check(m); e != wrong(m) {
			t.Fatalf("%v: %d and not %d", m, e, wrong(m))
		}
	}
	for _, m := range edges() {
		check(m)
	}
	for _, m := range msgs() {
		for _, n := range changed(m) {
			check(n)
		}
	}
	if known[api.OK] < 1000 || known[api.ErrArg] < 10000 || known[api.ErrLong] < 20 {
		t.Error(known)
	}
}

// What is too long is told first, whatever else is wrong.
func TestCheckOfTooMuch(t *testing.T) {
	long := make([]byte, 1<<20+1)
	for kind := -1; kind <= 9; kind++ {
		for _, n := range []int{33, 34, 64, 256, 1000} {
			for _, list := range [][]api.Entry{log(n, 0, 1), make([]api.Entry, n)} {
				for _, m := range []api.Msg{
					{Kind: kind, Epoch: 1000, Entries: list},
					{Kind: kind, Entries: list, Node: 7, Is: true, Ref: 8},
					{Kind: kind, Entries: list, Body: long},
				} {
					if e := wire.Check(m); e != api.ErrLong {
						t.Errorf("kind %d of %d entries: %d", kind, n, e)
					}
				}
			}
		}
		for _, m := range []api.Msg{
			{Kind: kind, Body: long},
			{Kind: kind, Body: long, Node: 7, Is: true, Ref: 8},
			{Kind: kind, Epoch: 1, Body: long, Entries: log(1, 0, 1)},
			{Kind: kind, Body: long, Entries: make([]api.Entry, 32)},
		} {
			if e := wire.Check(m); e != api.ErrLong {
				t.Errorf("kind %d: %d", kind, e)
			}
		}
	}
	for kind, want := range map[int]api.Errno{0: api.ErrArg, api.MsgAppend: api.ErrArg, api.MsgBase: api.OK} {
		if e := wire.Check(api.Msg{Kind: kind, Body: long[:1<<20]}); e != want {
			t.Errorf("kind %d: %d", kind, e)
		}
	}
	for kind, want := range map[int]api.Errno{0: api.ErrArg, api.MsgAppend: api.OK, api.MsgBase: api.ErrArg} {
		if e := wire.Check(api.Msg{Kind: kind, Epoch: 1000, Entries: log(32, 0, 1)}); e != want {
			t.Errorf("kind %d: %d", kind, e)
		}
	}
}

// Nobody owns a register alone, whatever its Epoch.
func TestCheckOfNodes(t *testing.T) {
	for _, node := range integers() {
		for _, epoch := range []uint32{0, 1, math.MaxUint32} {
			for kind, good := range map[int]bool{5: node == 1 || node == 2, 6: node >= 0 && node <= 2, 4: node == 0 && epoch == 0, 3: node == 0} {
				want := api.ErrArg
				if good {
					want = api.OK
				}
				if e := wire.Check(api.Msg{Kind: kind, Epoch: epoch, Node: node}); e != want {
					t.Errorf("kind %d, epoch %d, node %d: %d", kind, epoch, node, e)
				}
			}
		}
	}
}

// at is an entry of that Index and Epoch.
func at(index uint64, epoch uint32) api.Entry {
	return api.Entry{Kind: api.EntShut, Index: index, Epoch: epoch, Session: api.Session{ID: 1}}
}

func TestCheckOfEntries(t *testing.T) {
	for _, x := range []struct {
		index uint64
		prev  uint32
		epoch uint32
		list  []api.Entry
		want  api.Errno
	}{
		{2, 1, 1, []api.Entry{at(3, 1)}, api.OK},
		{2, 1, 1, []api.Entry{at(2, 1)}, api.ErrArg},
		{2, 1, 1, []api.Entry{at(4, 1)}, api.ErrArg},
		{2, 1, 1, []api.Entry{at(1, 1)}, api.ErrArg},
		{2, 1, 1, []api.Entry{at(3, 1), at(4, 1)}, api.OK},
		{2, 1, 1, []api.Entry{at(3, 1), at(5, 1)}, api.ErrArg},
		{2, 1, 1, []api.Entry{at(3, 1), at(3, 1)}, api.ErrArg},
		{2, 1, 1, []api.Entry{at(4, 1), at(3, 1)}, api.ErrArg},
		{2, 1, 1, []api.Entry{at(3, 1), at(4, 1), at(5, 1)}, api.OK},
		{2, 1, 1, []api.Entry{at(3, 1), at(4, 1), at(6, 1)}, api.ErrArg},
		{0, 0, 1, []api.Entry{at(1, 1)}, api.OK},
		{0, 0, 1, []api.Entry{at(0, 1)}, api.ErrArg},
		{0, 0, 0, []api.Entry{at(1, 0)}, api.ErrArg},
		{0, 0, 0, nil, api.OK},
		{1, 2, 4, []api.Entry{at(2, 1)}, api.ErrArg},
		{1, 2, 4, []api.Entry{at(2, 2)}, api.OK},
		{1, 2, 4, []api.Entry{at(2, 4)}, api.OK},
		{1, 2, 4, []api.Entry{at(2, 5)}, api.ErrArg},
		{1, 2, 4, []api.Entry{at(2, 2), at(3, 2), at(4, 4), at(5, 4)}, api.OK},
		{1, 2, 4, []api.Entry{at(2, 2), at(3, 2), at(4, 4), at(5, 3)}, api.ErrArg},
		{1, 2, 4, []api.Entry{at(2, 2), at(3, 2), at(4, 4), at(5, 5)}, api.ErrArg},
		{1, 2, 4, []api.Entry{at(2, 3), at(3, 2), at(4, 4)}, api.ErrArg},
		{1, 4, 2, []api.Entry{at(2, 4)}, api.ErrArg},
		{1, 4, 2, []api.Entry{at(2, 3)}, api.ErrArg},
		{1, 4, 2, []api.Entry{at(2, 2)}, api.ErrArg},
		{1, 4, 2, nil, api.OK}, // no entry is above the Epoch
		{0, math.MaxUint32, math.MaxUint32, []api.Entry{at(1, math.MaxUint32), at(2, math.MaxUint32)}, api.OK},
		{0, math.MaxUint32, math.MaxUint32, []api.Entry{at(1, math.MaxUint32-1)}, api.ErrArg},
		{0, 0, math.MaxUint32, []api.Entry{at(1, math.MaxUint32), at(2, 1)}, api.ErrArg},
		{1 << 62, 1, 1, []api.Entry{at(1<<62+1, 1), at(1<<62+2, 1)}, api.OK},
		{1<<62 - 1, 1, 1, []api.Entry{at(1<<62, 1)}, api.OK},
		{1<<62 + 1, 1, 1, []api.Entry{at(1<<62+2, 1)}, api.ErrArg},
		{1<<62 + 1, 1, 1, nil, api.ErrArg},
		{1 << 63, 1, 1, []api.Entry{at(1<<63+1, 1)}, api.ErrArg},
		{math.MaxUint64 - 1, 1, 1, []api.Entry{at(math.MaxUint64, 1)}, api.ErrArg},
		{math.MaxUint64, 1, 1, []api.Entry{at(0, 1)}, api.ErrArg},
		{math.MaxUint64, 1, 1, []api.Entry{at(1, 1)}, api.ErrArg},
		{5, 1, 1, []api.Entry{at(1<<32+6, 1)}, api.ErrArg},
		{1 << 32, 1, 1, []api.Entry{at(1, 1)}, api.ErrArg},
		{1 << 32, 1, 1, []api.Entry{at(1<<32+1, 1)}, api.OK},
	} {
		m := api.Msg{Kind: api.MsgAppend, Index: x.index, Prev: x.prev, Epoch: x.epoch, Entries: x.list}
		if e := wire.Check(m); e != x.want || wrong(m) != x.want {
			t.Errorf("%v: %d", m, e)
		}
	}
}

// Each place of an entry is looked at.
func TestCheckOfWrongEntries(t *testing.T) {
	for n := 1; n <= 32; n++ {
		for i := range n {
			for _, f := range []func(*api.Entry){
				func(e *api.Entry) { e.Kind = 4 },
				func(e *api.Entry) { e.Kind = 0 },
				func(e *api.Entry) { e.Index++ },
				func(e *api.Entry) { e.Index-- },
				func(e *api.Entry) { e.Epoch = 1 },
				func(e *api.Entry) { e.Epoch = 31 },
				func(e *api.Entry) { e.Session = api.Session{} },
				func(e *api.Entry) { e.Op.Ref = 1 },
				func(e *api.Entry) { *e = api.Entry{} },
			} {
				m := api.Msg{Kind: api.MsgAppend, Epoch: 30, Index: 6, Prev: 2}
				for j := range n {
					m.Entries = append(m.Entries, at(uint64(7+j), 9))
				}
				if e := wire.Check(m); e != api.OK {
					t.Fatalf("%d entries: %d", n, e)
				}
				f(&m.Entries[i])
				if e := wire.Check(m); e != api.ErrArg {
					t.Fatalf("%v: %d", m.Entries[i], e)
				}
			}
		}
	}
}

// P11.1: Same

// Messages that are not valid have the same fields.
func TestSame(t *testing.T) {
	strange := api.Msg{Kind: -1, Epoch: 1, Index: 2, Prev: 3, Upto: 4, Ref: 5, Node: -6, Is: true, Entries: make([]api.Entry, 2), Body: some(7)}
	every := append(msgs(), api.Msg{}, strange)
	for i, m := range every {
		for j, n := range every {
			if got := wire.Same(m, n); got != (i == j) {
				t.Errorf("%v and %v: %t", m, n, got)
			}
		}
		same := 0
		for _, n := range changed(m) {
			if got, other := wire.Same(m, n), wire.Same(n, m); got != equal(m, n) || other != got {
				t.Fatalf("%v and %v: %t %t", m, n, got, other)
			}
			if equal(m, n) {
				same++
			}
		}
		if same == 0 {
			t.Errorf("%v: no change is none", m)
		}
	}
}

func TestSameOfEntriesAndBodies(t *testing.T) {
	list := log(3, 0, 1)
	for _, x := range []struct {
		a, b []api.Entry
		want bool
	}{
		{nil, []api.Entry{}, true},
		{nil, list[:0], true},
		{nil, list[:1], false},
		{nil, make([]api.Entry, 1), false},
		{list, log(3, 0, 1), true},
		{list, log(4, 0, 1)[:3], true},
		{list, list[:2], false},
		{list, append(log(3, 0, 1), api.Entry{}), false},
		{list, []api.Entry{list[0], list[2], list[1]}, false},
		{list, []api.Entry{list[0], list[1], {}}, false},
		{make([]api.Entry, 40), make([]api.Entry, 40), true},
	} {
		if got := wire.Same(api.Msg{Kind: 2, Entries: x.a}, api.Msg{Kind: 2, Entries: x.b}); got != x.want {
			t.Errorf("%v and %v: %t", x.a, x.b, got)
		}
	}
	for _, x := range []struct {
		a, b []byte
		want bool
	}{
		{nil, []byte{}, true},
		{nil, some(9)[:0], true},
		{nil, []byte{0}, false},
		{some(20), some(21)[:20], true},
		{some(20), some(19), false},
		{some(20), append(some(20), 0), false},
		{[]byte{1, 2}, []byte{2, 1}, false},
		{[]byte{1, 2}, []byte{1, 3}, false},
		{some(1 << 21), some(1 << 21), true},
		{some(1 << 21), append(some(1<<21-1), 0), false},
	} {
		if got := wire.Same(api.Msg{Kind: 7, Body: x.a}, api.Msg{Kind: 7, Body: x.b}); got != x.want {
			t.Errorf("%d and %d bytes: %t", len(x.a), len(x.b), got)
		}
	}
}
