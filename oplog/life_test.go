package oplog_test

import (
	"math/rand"
	"testing"

	"drawbridge/api"
	"drawbridge/oplog"
)

// P15.3

// letter is a message that is under way to a node, and the log of its sender then.
type letter struct {
	to   int
	m    api.Msg
	from api.Kept
}

// pair are two nodes, of which one or the other owns each epoch, and all letters that were ever sent.
type pair struct {
	nodes   [2]api.Kept
	letters []letter
	replies []letter
	agreed  uint64
	known   map[string]int
}

// keep makes records permanent at a node.
func (p *pair) keep(t *testing.T, node int, l []api.Record) {
	t.Helper()
	k, e := oplog.Have(p.nodes[node], l)
	if e != api.OK {
		t.Fatalf("%v\n%v: %d", p.nodes[node], l, e)
	}
	p.nodes[node] = k
}

// claim gives the next epoch to a node.
func (p *pair) claim(t *testing.T, node int) {
	t.Helper()
	p.keep(t, node, []api.Record{{Kind: 2, Epoch: max(p.nodes[0].Term, p.nodes[1].Term) + 1}})
}

// anyEntry is one that may have an effect.
func anyEntry(r *rand.Rand) api.Entry {
	id := r.Intn(4) + 1
	switch r.Intn(4) {
	case 0:
		return api.Entry{Kind: 2, Session: session(r.Uint64()%9+1, id)}
	case 1:
		return api.Entry{Kind: 3, Session: api.Session{ID: r.Uint64()%9 + 1}}
	case 2:
		return api.Entry{Kind: 1, Op: api.Op{Kind: r.Intn(2) + 2, Ref: r.Uint64() % 99, ID: id}}
	}
	return api.Entry{Kind: 1, Op: api.Op{Kind: 1, Ref: r.Uint64() % 99, ID: id, Key: bytes32(byte(id))}}
}

// appendTo appends an entry at a node, if it is active.
func (p *pair) appendTo(t *testing.T, r *rand.Rand, node int) {
	t.Helper()
	l, e := oplog.Append(p.nodes[node], anyEntry(r))
	if e == api.OK {
		p.keep(t, node, l)
		p.known["append"]++
	}
}

// send sends something to the other node, if the node is active.
func (p *pair) send(r *rand.Rand, node int, from uint64) {
	k := p.nodes[node]
	if m, e := oplog.Send(k, from, r.Intn(4), 0); e == api.OK {
		p.letters = append(p.letters, letter{1 - node, m, k})
	}
}

// deliver lets any letter arrive, maybe again, maybe late.
func (p *pair) deliver(t *testing.T, r *rand.Rand) {
	t.Helper()
	if len(p.letters) == 0 {
		return
	}
	x := p.letters[len(p.letters)-1-r.Intn(min(len(p.letters), 12))]
	l, h, e := oplog.Take(p.nodes[x.to], x.m)
	if e != api.OK {
		t.Fatalf("%v\n%v: %d", p.nodes[x.to], x.m, e)
	}
	old := p.nodes[x.to].Term > x.m.Epoch
	p.keep(t, x.to, l)
	p.replies = append(p.replies, letter{1 - x.to, h, api.Kept{}})
	for _, r := range l {
		p.known[[]string{1: "term", 3: "entry", 4: "cut", 5: "base"}[r.Kind]]++
	}
	if old && (h.Is || len(l) > 0) {
		t.Fatalf("%v\n%v: %v", p.nodes[x.to], x.m, h)
	}
	if h.Is && h.Index >= x.from.Base.Index {
		p.known["is"]++
		// What is acknowledged is there, as the sender had it.
		if last, _ := oplog.Last(x.from); h.Index <= last && !oplog.Prefix(x.from, p.nodes[x.to], h.Index) {
			t.Fatalf("%v\n%v\n%v\n%v", x.from, p.nodes[x.to], x.m, h)
		}
	}
	if !h.Is && !old {
		p.known["not"]++
	}
}

// agree checks that both have the same up to each entry of which they have the Index and the Epoch.
func (p *pair) agree(t *testing.T) {
	t.Helper()
	a, b := p.nodes[0], p.nodes[1]
	first := max(a.Base.Index, b.Base.Index)
	for _, e := range a.Entries {
		epoch, there := oplog.At(b, e.Index)
		if there && e.Index > first && epoch == e.Epoch && !oplog.Prefix(a, b, e.Index) {
			t.Fatalf("%d:\n%v\n%v", e.Index, a, b)
		}
	}
}

// heard follows the replies to the active node: it tries again from where its log may fit, and compacts what is acknowledged.
func (p *pair) heard(t *testing.T, r *rand.Rand, node int, compacts bool) {
	t.Helper()
	if len(p.replies) == 0 {
		return
	}
	x := p.replies[len(p.replies)-1]
	k := p.nodes[x.to]
	if x.m.Epoch != k.Own || k.Own != k.Term {
		return
	}
	p.send(r, x.to, x.m.Index)
	last, _ := oplog.Last(k)
	if !compacts || !x.m.Is || x.m.Index > last || x.m.Index < p.agreed {
		return
	}
	p.agreed = x.m.Index
	for i, k := range p.nodes {
		if l, e := oplog.Compact(k, p.agreed); e == api.OK && r.Intn(2) == 0 {
			p.keep(t, i, l)
			p.known["compact"] += len(l)
		}
	}
}

func lives(t *testing.T, compacts bool) map[string]int {
	t.Helper()
	known := map[string]int{}
	for life := range 200 {
		r := rand.New(rand.NewSource(int64(life)))
		p := &pair{known: known}
		p.claim(t, 0)
		for range 300 {
			node := r.Intn(2)
			switch r.Intn(12) {
			case 0:
				if r.Intn(4) == 0 {
					p.claim(t, node)
				}
			case 1, 2, 3:
				p.appendTo(t, r, node)
			case 4:
				last, _ := oplog.Last(p.nodes[node])
				p.send(r, node, last-min(last, uint64(r.Intn(9))))
			case 5, 6:
				p.heard(t, r, node, compacts)
			default:
				p.deliver(t, r)
			}
			p.agree(t)
		}
	}
	return known
}

func TestLives(t *testing.T) {
	known := lives(t, false)
	for _, x := range []string{"append", "term", "entry", "cut", "is", "not"} {
		if known[x] < 100 {
			t.Error(x, known)
		}
	}
}

// The same, if what both have becomes the base of one or of both.
func TestLivesWithBases(t *testing.T) {
	known := lives(t, true)
	for _, x := range []string{"append", "term", "entry", "cut", "base", "is", "not", "compact"} {
		if known[x] < 50 {
			t.Error(x, known)
		}
	}
}

// Whatever two logs have had, a few messages make the one like the other.
func TestTheOtherOneCatchesUp(t *testing.T) {
	for life := range 60 {
		r := rand.New(rand.NewSource(int64(1000 + life)))
		p := &pair{known: map[string]int{}}
		p.claim(t, 0)
		for range 100 {
			node := r.Intn(2)
			switch r.Intn(8) {
			case 0:
				p.claim(t, node)
			case 1, 2:
				last, _ := oplog.Last(p.nodes[node])
				p.send(r, node, last-min(last, uint64(r.Intn(3))))
			case 3:
				p.deliver(t, r)
			default:
				p.appendTo(t, r, node)
			}
		}
		p.claim(t, life%2)
		a, b := p.nodes[life%2], p.nodes[1-life%2]
		last, _ := oplog.Last(a)
		if life%3 == 0 {
			l, e := oplog.Compact(a, last/2)
			if a, _ = oplog.Have(a, l); e != api.OK {
				t.Fatal(e)
			}
		}
		from, tries := last, 0
		for ; tries < 400; tries++ {
			m, e := oplog.Send(a, from, 5, 0)
			l, h, f := oplog.Take(b, m)
			if e != api.OK || f != api.OK {
				t.Fatalf("%v\n%v: %d %d", a, b, e, f)
			}
			b, _ = oplog.Have(b, l)
			if from = h.Index; h.Is && from == last {
				break
			}
		}
		if end, _ := oplog.Last(b); end != last || !oplog.Prefix(a, b, last) || b.Term != a.Own {
			t.Fatalf("%d tries\n%v\n%v", tries, a, b)
		}
	}
}
