package journal_test

import (
	"fmt"
	"math/rand"
	"slices"
	"strings"
	"testing"

	"drawbridge/api"
	"drawbridge/disk"
	"drawbridge/journal"
)

// P13.4, and the chapter's examples

func TestExamples(t *testing.T) {
	b, e := journal.Frame([]byte("ab"))
	if e != api.OK || string(b[:4]) != "\x00\x00\x00\x02" {
		t.Errorf("%x %d", b, e)
	}
	d := fresh(t, 1000)
	ok(t, appendTo(opened(t, d, "h", "h"), "a", "b"), d.Crash(nil))
	j := opened(t, d, "h", "h", "a", "b")
	ok(t, j.Begin([]byte("g")), d.Crash(nil))
	opened(t, d, "h", "g")
	are(t, d, "x.2", first("g"))
}

// crashed does do to a new disk, with a fuse and a crash of which each file keeps so many bytes, and opens the journal.
func crashed(t *testing.T, fuse, part int, do func(d *disk.Disk)) []string {
	t.Helper()
	d := fresh(t, 10000)
	ok(t, d.Fuse(fuse))
	do(d)
	ok(t, d.Crash([]int{part, part, part}))
	_, l, e := journal.Open(d, "x", []byte("new"))
	ok(t, e)
	// It opens in the same way after one more crash.
	ok(t, d.Crash(nil))
	opened(t, d, "newer", texts(l)...)
	return texts(l)
}

// An append that is interrupted: a prefix of its records is there, and nothing of what comes after it.
func TestCrashesInAppend(t *testing.T) {
	calls := [][]string{{"a"}, {"b", "", "cd"}, {"e", "f"}}
	for fuse := range 10 {
		for part := range 40 {
			var acknowledged, tried []string
			got := crashed(t, fuse, part, func(d *disk.Disk) {
				j, l, e := journal.Open(d, "x", []byte("h"))
				acknowledged = texts(l)
				for i := 0; i < len(calls) && e == api.OK; i++ {
					if e = appendTo(j, calls[i]...); e == api.OK {
						acknowledged = append(acknowledged, calls[i]...)
					} else {
						tried = calls[i]
					}
				}
			})
			if len(acknowledged) == 0 {
				if !slices.Equal(got, []string{"h"}) && !slices.Equal(got, []string{"new"}) {
					t.Fatalf("%d, %d: %q", fuse, part, got)
				}
				continue
			}
			n := len(got) - len(acknowledged)
			if n < 0 || n > len(tried) || !slices.Equal(got, slices.Concat(acknowledged, tried[:n])) {
				t.Fatalf("%d, %d: %q, with %q acknowledged, and %q tried", fuse, part, got, acknowledged, tried)
			}
			// Only whole frames count, as many as the crash left.
			if fuse == 5 && part < len(frames(calls[1]...)) {
				want := 0
				for want < len(calls[1]) && len(frames(calls[1][:want+1]...)) <= part {
					want++
				}
				if n != want {
					t.Fatalf("%d, %d: %q", fuse, part, got)
				}
			}
		}
	}
}

// A begin that is interrupted: everything of the previous generation, or the new head alone.
func TestCrashesInBegin(t *testing.T) {
	old, next := []string{"h", "a", "b"}, first("g")
	for fuse := range 4 {
		for part := range 2 * len(next) {
			d := with(t, "x.9", first("h")+frames("a", "b"))
			j := opened(t, d, "f", old...)
			ok(t, d.Fuse(fuse))
			e := j.Begin([]byte("g"))
			// By its name x.10 comes first.
			ok(t, d.Crash([]int{part, part}))
			// The new head is there once all its bytes are, synced or not.
			began := fuse > 1 || fuse == 1 && part%(len(next)+1) == len(next)
			if began {
				opened(t, d, "f", "g")
				are(t, d, "x.10", next)
			} else {
				opened(t, d, "f", old...)
				are(t, d, "x.9", first("h")+frames("a", "b"))
			}
			if (e == api.OK) != (fuse > 2) {
				t.Errorf("%d, %d: %d", fuse, part, e)
			}
		}
	}
}

// A restart that is interrupted, again and again, loses nothing.
func TestCrashesInOpen(t *testing.T) {
	for one := range 8 {
		for two := range 8 {
			for part := range 40 {
				d := with(t, "x.1", "torn", "x.10", first("h", "a")+frames("b", "")+"torn", "x.9", first("old"))
				for _, fuse := range []int{one, two} {
					ok(t, d.Fuse(fuse))
					if _, l, e := journal.Open(d, "x", []byte("new")); e != api.ErrOff && !slices.Equal(texts(l), []string{"h", "a", "b", ""}) {
						t.Fatalf("%d, %d, %d: %q %d", one, two, part, l, e)
					}
					ok(t, d.Crash([]int{part, part, part, part, part}))
				}
				opened(t, d, "new", "h", "a", "b", "")
			}
		}
	}
}

// A life is steps of a journal on a disk, and of the second reading on its twin.
type life struct {
	d    *disk.Disk
	j    *journal.Journal
	read *reading
	told []string
}

func newLife(t *testing.T, room int) *life {
	t.Helper()
	return &life{d: fresh(t, room), read: &reading{d: fresh(t, room), name: "x"}}
}

// both does the same to both disks.
func (l *life) both(do func(d *disk.Disk)) {
	do(l.d)
	do(l.read.d)
}

// open opens both; a journal that could not be opened is an invalid one.
func (l *life) open(t *testing.T, head string) {
	t.Helper()
	j, records, got := journal.Open(l.d, "x", []byte(head))
	want, e := l.read.open(head)
	if got != e || !slices.Equal(texts(records), want) {
		t.Fatalf("%q: %q, %d; not %q, %d", l.told, texts(records), got, want, e)
	}
	l.j = j
}

// step does something to both, and checks that they come to the same.
func (l *life) step(t *testing.T, r *rand.Rand) {
	t.Helper()
	var records []string
	for range r.Intn(4) {
		records = append(records, strings.Repeat(string('a'+byte(r.Intn(26))), r.Intn(5)))
	}
	head := strings.Join(records, ",")
	if r.Intn(200) == 0 {
		head = strings.Repeat("q", mostOfRecord+1)
		records = append(records, head)
	}
	got, want := api.OK, api.OK
	what := r.Intn(12)
	l.told = append(l.told, fmt.Sprintf("%d %.30q", what, records))
	switch {
	case what == 0:
		n := r.Intn(8) - 1
		l.both(func(d *disk.Disk) { d.Fuse(n) })
	case what == 1 || l.j == nil && what < 6:
		parts := []int{r.Intn(30), r.Intn(30) - 10, r.Intn(30)}
		l.both(func(d *disk.Disk) { d.Crash(parts) })
		l.open(t, head)
	case what == 2 || l.j == nil:
		l.open(t, head)
	case what < 5:
		got, want = l.j.Begin([]byte(head)), l.read.begin(head)
	case what == 5 && r.Intn(3) == 0:
		// Torn bytes from somewhere: nobody goes on without opening it.
		n := l.j.Generation() + int64(r.Intn(5)) - 1
		file, e := journal.File("x", n)
		if e == api.OK {
			l.both(func(d *disk.Disk) { d.Append(file, []byte(head[:min(len(head), 5)])) })
		}
		l.open(t, "again")
	default:
		got, want = appendTo(l.j, records...), l.read.append(records...)
	}
	if got != want {
		t.Fatalf("%q: %d, not %d", l.told, got, want)
	}
	sameDisk(t, l.d, l.read.d, l.told)
	if l.j != nil {
		l.read.agrees(t, l.j, l.told)
	}
}

func TestRandomLives(t *testing.T) {
	r := rand.New(rand.NewSource(4))
	for n := range 1500 {
		l := newLife(t, []int{0, 30, 60, 100, 300, 10000}[n%6])
		l.open(t, "h")
		for range 40 {
			l.step(t, r)
		}
	}
}

// work appends and begins at random until an error, and returns what may be there after a crash, if had is there now: what
// was acknowledged, or as much of what was tried last as a crash may leave.
func work(r *rand.Rand, j *journal.Journal, had []string) [][]string {
	for r.Intn(8) > 0 {
		if r.Intn(4) == 0 {
			head := fmt.Sprint("g", r.Intn(10))
			if j.Begin([]byte(head)) != api.OK {
				return [][]string{had, {head}}
			}
			had = []string{head}
			continue
		}
		records := []string{fmt.Sprint(r.Intn(100)), "", fmt.Sprint(r.Intn(100))}[:r.Intn(4)]
		if appendTo(j, records...) != api.OK {
			var may [][]string
			for n := range len(records) + 1 {
				may = append(may, slices.Concat(had, records[:n]))
			}
			return may
		}
		had = append(had, records...)
	}
	return [][]string{had}
}

// What was acknowledged is there after each crash, whatever comes before it.
func TestNothingAcknowledgedIsLost(t *testing.T) {
	r := rand.New(rand.NewSource(5))
	for range 3000 {
		d := fresh(t, 300)
		may := [][]string{{"h0"}}
		for n := range 8 {
			j, l, e := journal.Open(d, "x", []byte("h0"))
			if e == api.ErrFull {
				break
			}
			ok(t, e)
			had := texts(l)
			if !slices.ContainsFunc(may, func(one []string) bool { return slices.Equal(one, had) }) {
				t.Fatalf("%d: %q, and none of %q", n, had, may)
			}
			ok(t, d.Fuse(r.Intn(15)-1))
			may = work(r, j, had)
			ok(t, d.Crash([]int{r.Intn(60), r.Intn(60)}))
		}
	}
}
