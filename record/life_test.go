package record_test

import (
	"math/rand"
	"slices"
	"testing"

	"drawbridge/api"
	"drawbridge/record"
)

// P14.3

// copied is k, read from its bytes.
func copied(t *testing.T, k api.Kept) api.Kept {
	t.Helper()
	b, e := record.Bytes(k)
	n, f := record.Read(b)
	if e != api.OK || f != api.OK || !record.Same(n, k) || !equal(n, k) {
		t.Fatalf("%v: %v %d %d", k, n, e, f)
	}
	return n
}

// lastOf is the base to which all entries of k lead.
func lastOf(t *testing.T, k api.Kept) api.Base {
	t.Helper()
	b := k.Base
	for _, e := range k.Entries {
		b, _ = enters(t, b, e)
	}
	return b
}

// anyRecord is one that is possible in k, more often than not.
func anyRecord(t *testing.T, r *rand.Rand, k api.Kept) api.Record {
	t.Helper()
	last := lastOf(t, k)
	id, upto := r.Uint64()%4+1, r.Uint64()%60+1
	switch r.Intn(16) {
	case 0:
		return api.Record{Kind: 1, Epoch: k.Term + uint32(r.Intn(3))}
	case 1:
		return api.Record{Kind: 2, Epoch: max(k.Term, 1) + uint32(r.Intn(2))}
	case 2:
		return api.Record{Kind: 4, Index: k.Base.Index + uint64(r.Intn(len(k.Entries)+2))}
	case 3:
		return api.Record{Kind: 5, Base: api.Base{Index: last.Index + uint64(r.Intn(3)), Epoch: max(k.Term, 1), Refs: []uint64{id}}}
	case 4:
		b := k.Base
		for _, e := range k.Entries[:r.Intn(len(k.Entries)+1)] {
			b, _ = enters(t, b, e)
		}
		return api.Record{Kind: 5, Base: b}
	case 5, 6:
		return api.Record{Kind: 6, Session: id, Upto: upto}
	case 7, 8:
		return api.Record{Kind: 7, Session: id, Upto: upto}
	}
	e := anyEntry(r, last, 7)
	if r.Intn(3) > 0 {
		e.Epoch = min(e.Epoch, k.Term)
	}
	return api.Record{Kind: 3, Entry: e}
}

// The fold of records is that of the second reading, and the same as what is read anywhere in between and folded further.
func TestLives(t *testing.T) {
	known := map[int]int{}
	for life := range 60 {
		r := rand.New(rand.NewSource(int64(life)))
		k, read := record.New(), record.New()
		for range 250 {
			x := anyRecord(t, r, k)
			n, e := does(t, k, x)
			if r.Intn(3) == 0 {
				read = copied(t, read)
			}
			m, f := record.Do(read, x)
			if e != f || !equal(n, m) {
				t.Fatalf("%v\n%v: %v %d and %v %d", k, x, n, e, m, f)
			}
			if e != api.OK {
				continue
			}
			known[x.Kind]++
			k, read = n, m
			if r.Intn(20) == 0 {
				k, _ = record.Recover(k)
				read, _ = record.Recover(copied(t, read))
			}
		}
	}
	for kind := 1; kind <= 7; kind++ {
		if known[kind] < 100 {
			t.Error(known)
		}
	}
}

// Records are read from their bytes as well, as from a journal.
func TestFoldOfWhatIsRead(t *testing.T) {
	r := rand.New(rand.NewSource(9))
	for range 30 {
		k := record.New()
		var l [][]byte
		for range 120 {
			x := anyRecord(t, r, k)
			if n, e := does(t, k, x); e == api.OK {
				b, f := record.RecordBytes(x)
				if f != api.OK {
					t.Fatalf("%v: %d", x, f)
				}
				k, l = n, append(l, b)
			}
		}
		got := record.New()
		for _, b := range l {
			x, e := record.ReadRecord(b)
			n, f := record.Do(got, x)
			if e != api.OK || f != api.OK {
				t.Fatalf("%x: %d %d", b, e, f)
			}
			got = n
		}
		if !record.Same(got, k) {
			t.Fatalf("%v and not %v", got, k)
		}
	}
}

// Applying entries one by one, or with a base in between, leads to the same base.
func TestABaseInBetween(t *testing.T) {
	r := rand.New(rand.NewSource(10))
	for range 40 {
		k := did(t, record.New(), api.Record{Kind: 2, Epoch: 50})
		b := k.Base
		for range 60 {
			e := anyEntry(r, b, 5)
			e.Epoch = min(e.Epoch, 50)
			b = enter(t, b, e)
			k = did(t, k, api.Record{Kind: 3, Entry: e})
		}
		for n := range 61 {
			between := k.Base
			for _, e := range k.Entries[:n] {
				between = enter(t, between, e)
			}
			p, e := record.BaseBytes(between)
			again, f := record.ReadBase(p)
			if e != api.OK || f != api.OK || !equalBase(again, between) {
				t.Fatalf("%v: %v %d %d", between, again, e, f)
			}
			for _, e := range k.Entries[n:] {
				again = enter(t, again, e)
			}
			if !equalBase(again, b) {
				t.Fatalf("%d: %v and not %v", n, again, b)
			}
			if n == 0 {
				continue
			}
			cut := did(t, k, api.Record{Kind: 5, Base: between})
			if !equalBase(cut.Base, between) || !slices.Equal(cut.Entries, k.Entries[n:]) || !equalBase(lastOf(t, cut), b) {
				t.Fatalf("%d: %v", n, cut)
			}
		}
	}
}

// What was leased and allowed is never used again after a crash, whatever was folded since.
func TestCountersAfterACrash(t *testing.T) {
	r := rand.New(rand.NewSource(11))
	k := did(t, record.New(), api.Record{Kind: 2, Epoch: 1})
	leased, limit := uint64(0), uint64(1)
	for range 500 {
		switch upto := limit + leased + uint64(r.Intn(5)); r.Intn(3) {
		case 0:
			k, leased = did(t, k, api.Record{Kind: 6, Session: 9, Upto: leased + 1 + upto%5}), leased+1+upto%5
		case 1:
			k, limit = did(t, k, api.Record{Kind: 7, Session: 9, Upto: limit + 1 + upto%7}), limit+1+upto%7
		default:
			k, _ = record.Recover(k)
			if f, ok := record.Flow(k, 9); ok && (f.Out.Next != leased+1 || f.In.Floor != limit || f.In.Seen != 0) {
				t.Fatalf("%v after %d and %d", f, leased, limit)
			}
		}
	}
	if leased < 100 || limit < 100 {
		t.Error(leased, limit)
	}
}
