package disk_test

import (
	"bytes"
	"fmt"
	"regexp"
	"slices"
	"strings"
	"testing"

	"drawbridge/api"
	"drawbridge/disk"
)

const greatestRoom = 16777216

// The second reading of the chapter: files as texts in a list, whose safe bytes are counted.

// past is a file of the second reading.
type past struct {
	name   string
	all    string
	safe   int
	synced bool
}

// reading is a disk of the second reading.
type reading struct {
	room int
	list []past // in no order
	off  bool
	// fuses has how many operations are further ones, if there is a fuse.
	fuses []int
}

var isName = regexp.MustCompile(`\A[a-z0-9.]{1,40}\z`)

func (r *reading) at(name string) int {
	return slices.IndexFunc(r.list, func(p past) bool { return p.name == name })
}

func (r *reading) left() int {
	n := r.room
	for _, p := range r.list {
		n -= len(p.all)
	}
	return n
}

func (r *reading) names() []string {
	var all []string
	for _, p := range r.list {
		all = append(all, p.name)
	}
	slices.Sort(all)
	return all
}

// refuses is why an operation is not begun.
func (r *reading) refuses(name string) api.Errno {
	switch {
	case !isName.MatchString(name):
		return api.ErrArg
	case r.off:
		return api.ErrOff
	case len(r.fuses) == 0:
		return api.OK
	case r.fuses[0] == 0:
		r.off, r.fuses = true, nil
		return api.ErrOff
	}
	r.fuses[0]--
	return api.OK
}

func (r *reading) append(name, b string) api.Errno {
	if e := r.refuses(name); e != api.OK {
		return e
	}
	if r.left()-len(b) < 0 {
		return api.ErrFull
	}
	if r.at(name) < 0 {
		r.list = append(r.list, past{name: name})
	}
	r.list[r.at(name)].all += b
	return api.OK
}

func (r *reading) sync(name string) api.Errno {
	if e := r.refuses(name); e != api.OK {
		return e
	}
	if r.at(name) < 0 {
		return api.ErrNone
	}
	p := &r.list[r.at(name)]
	p.safe, p.synced = len(p.all), true
	return api.OK
}

func (r *reading) remove(name string) api.Errno {
	if e := r.refuses(name); e != api.OK {
		return e
	}
	if r.at(name) < 0 {
		return api.ErrNone
	}
	r.list = slices.Delete(r.list, r.at(name), r.at(name)+1)
	return api.OK
}

func (r *reading) fuse(n int) {
	r.fuses = nil
	if n >= 0 {
		r.fuses = []int{n}
	}
}

func (r *reading) crash(parts []int) {
	for _, name := range r.names() {
		i := r.at(name)
		p := r.list[i]
		keeps := 0
		if len(parts) > 0 {
			if parts[0] > 0 {
				keeps = parts[0] % (len(p.all) - p.safe + 1)
			}
			parts = parts[1:]
		}
		p.all = p.all[:p.safe+keeps]
		p.safe = len(p.all)
		r.list[i] = p
		if !p.synced && p.all == "" {
			r.list = slices.Delete(r.list, i, i+1)
		}
	}
	r.off, r.fuses = false, nil
}

// safe is what a disk's Safe tells, each file as its name, an equals sign and its bytes.
func (r *reading) safe() []string {
	var all []string
	for _, name := range r.names() {
		if p := r.list[r.at(name)]; p.safe > 0 || p.synced {
			all = append(all, name+"="+p.all[:p.safe])
		}
	}
	return all
}

// files are files as the reading tells them.
func files(l []api.File) []string {
	var all []string
	for _, f := range l {
		all = append(all, f.Name+"="+string(f.Bytes))
	}
	return all
}

// agrees checks that all questions to d are answered as r answers them.
func (r *reading) agrees(t *testing.T, d *disk.Disk, told any) {
	t.Helper()
	if d.On() == r.off || d.Left() != r.left() {
		t.Fatalf("%v: it is on: %v, left: %d, not %d", told, d.On(), d.Left(), r.left())
	}
	if got := d.Names(); !slices.Equal(got, r.names()) {
		t.Fatalf("%v: names %q, not %q", told, got, r.names())
	}
	if got := files(d.Safe()); !slices.Equal(got, r.safe()) {
		t.Fatalf("%v: safe %.99q, not %.99q", told, got, r.safe())
	}
	for _, p := range r.list {
		if got, e := d.Read(p.name); e != api.OK || string(got) != p.all || d.Size(p.name) != len(p.all) {
			t.Fatalf("%v: %s is %.99q (%d), and not %.99q; its size is %d", told, p.name, got, e, p.all, d.Size(p.name))
		}
	}
	for _, name := range append(unlikeNames(), "nobody", "a", "b", "c") {
		if got, e := d.Read(name); r.at(name) < 0 && (e != api.ErrNone || len(got) > 0 || d.Size(name) != 0) {
			t.Fatalf("%v: there is %q: %.99q (%d), %d", told, name, got, e, d.Size(name))
		}
	}
}

// step is a call of one of the functions that change a disk.
type step struct {
	call  string
	name  string
	bytes string
	n     int
	parts []int
}

func (s step) String() string {
	return strings.TrimSpace(fmt.Sprintf("%s %s %.20q %d %d", s.call, s.name, s.bytes, s.n, s.parts))
}

// do calls d and r, which must return the same.
func (s step) do(t *testing.T, d *disk.Disk, r *reading, told any) {
	t.Helper()
	got, want := api.OK, api.OK
	switch s.call {
	case "append":
		got, want = d.Append(s.name, []byte(s.bytes)), r.append(s.name, s.bytes)
	case "sync":
		got, want = d.Sync(s.name), r.sync(s.name)
	case "remove":
		got, want = d.Remove(s.name), r.remove(s.name)
	case "fuse":
		got = d.Fuse(s.n)
		r.fuse(s.n)
	case "crash":
		got = d.Crash(slices.Clone(s.parts))
		r.crash(s.parts)
	default:
		t.Fatal(s)
	}
	if got != want {
		t.Fatalf("%v: the last one returned %d, not %d", told, got, want)
	}
}

// unlikeNames are names that are not valid.
func unlikeNames() []string {
	return []string{"", strings.Repeat("a", 41), strings.Repeat("a", 4100), "A", "a b", "ab\n", "\x00", "a/", "a_b", "-", "é", "１", "\xff", "a\x80"}
}

// fresh is a new disk with so much room.
func fresh(t *testing.T, room int) *disk.Disk {
	t.Helper()
	d, e := disk.New(room)
	if e != api.OK || d == nil {
		t.Fatalf("room for %d: %d", room, e)
	}
	return d
}

// ok checks that no call returned an error.
func ok(t *testing.T, all ...api.Errno) {
	t.Helper()
	for i, e := range all {
		if e != api.OK {
			t.Fatalf("call %d: %d", i, e)
		}
	}
}

// reads checks what the bytes of a file are.
func reads(t *testing.T, d *disk.Disk, name, want string) {
	t.Helper()
	if b, e := d.Read(name); e != api.OK || !bytes.Equal(b, []byte(want)) || d.Size(name) != len(want) {
		t.Errorf("%s is %.99q (%d) of %d bytes, and not %.99q", name, b, e, d.Size(name), want)
	}
}

// absent checks that there is no such file.
func absent(t *testing.T, d *disk.Disk, name string) {
	t.Helper()
	if b, e := d.Read(name); e != api.ErrNone || len(b) > 0 || d.Size(name) != 0 || slices.Contains(d.Names(), name) {
		t.Errorf("%q is there: %.99q (%d) of %d bytes", name, b, e, d.Size(name))
	}
}

// named checks which files there are.
func named(t *testing.T, d *disk.Disk, want ...string) {
	t.Helper()
	if got := d.Names(); !slices.Equal(got, want) {
		t.Errorf("the names are %q, and not %q", got, want)
	}
}

// safeAre checks what is safe, each file as its name, an equals sign and its bytes.
func safeAre(t *testing.T, d *disk.Disk, want ...string) {
	t.Helper()
	if got := files(d.Safe()); !slices.Equal(got, want) {
		t.Errorf("%q are safe, and not %q", got, want)
	}
}
