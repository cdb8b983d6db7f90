package journal_test

import (
	"encoding/binary"
	"hash/crc32"
	"regexp"
	"slices"
	"strconv"
	"strings"
	"testing"

	"drawbridge/api"
	"drawbridge/disk"
	"drawbridge/journal"
)

const (
	mostOfFrame    = 8388608 // bytes
	mostOfRecord   = 1048576
	lastGeneration = 1099511627776
	greatestRoom   = 16777216
)

// The second reading of the chapter: all that it tells is read from a disk, as texts.

// number is the bytes of a number.
func number(n int) string {
	b := binary.BigEndian.AppendUint64(nil, uint64(n))
	s := strings.TrimLeft(string(b), "\x00")
	return string([]byte{byte(len(s))}) + s
}

func frame(p string) string {
	b := binary.BigEndian.AppendUint32(nil, uint32(len(p)))
	sum := crc32.ChecksumIEEE(slices.Concat(b, []byte(p)))
	return string(binary.BigEndian.AppendUint32(b, sum)) + p
}

// frames is the frames of all records, one after the other.
func frames(records ...string) string {
	var s strings.Builder
	for _, p := range records {
		s.WriteString(frame(p))
	}
	return s.String()
}

// list is the list of the records, without its frame.
func list(records ...string) string {
	var s strings.Builder
	s.WriteString(number(len(records)))
	for _, p := range records {
		s.WriteString(number(len(p)) + p)
	}
	return s.String()
}

// first is what a file of a generation with these records begins with.
func first(records ...string) string {
	return frame(list(records...))
}

// cut is the record of the frame that s begins with, and what comes after it.
func cut(s string) (p, rest string, ok bool) {
	if len(s) < 8 {
		return "", "", false
	}
	n := binary.BigEndian.Uint32([]byte(s))
	if uint64(n) > mostOfFrame || uint64(n) > uint64(len(s)-8) {
		return "", "", false
	}
	p, rest = s[8:8+n], s[8+n:]
	return p, rest, s[:8+n] == frame(p)
}

// uncounted is the number that s begins with, and what comes after it; below 0 if there is none.
func uncounted(s string) (int, string) {
	for size := 1; size <= min(len(s), 5); size++ {
		n := 0
		for _, c := range []byte(s[1:size]) {
			n = n*256 + int(c)
		}
		if number(n) == s[:size] {
			return n, s[size:]
		}
	}
	return -1, ""
}

// unlisted is the records of a list, none if s is not one.
func unlisted(s string) []string {
	var all []string
	n, s := uncounted(s)
	for len(all) < n {
		size, rest := uncounted(s)
		if size < 0 || size > mostOfRecord || size > len(rest) {
			return nil
		}
		all = append(all, rest[:size])
		s = rest[size:]
	}
	if s != "" {
		return nil
	}
	return all
}

// reading is a journal of the second reading.
type reading struct {
	d    *disk.Disk
	name string
	err  api.Errno
}

var isGeneration = regexp.MustCompile(`\A[1-9][0-9]{0,12}\z`)

// files are the generations whose files there are, ascending.
func (r *reading) files() []int {
	var all []int
	for _, file := range r.d.Names() {
		s, ok := strings.CutPrefix(file, r.name+".")
		if n, e := strconv.Atoi(s); ok && e == nil && isGeneration.MatchString(s) && n <= lastGeneration {
			all = append(all, n)
		}
	}
	slices.Sort(all)
	return all
}

func (r *reading) file(n int) string {
	return r.name + "." + strconv.Itoa(n)
}

// records are those of a generation, and its truncated bytes; none if it does not begin with a list.
func (r *reading) records(n int) (all []string, truncated string) {
	b, _ := r.d.Read(r.file(n))
	p, rest, ok := cut(string(b))
	if all = unlisted(p); !ok || len(all) == 0 {
		return nil, ""
	}
	for {
		p, more, ok := cut(rest)
		if !ok {
			return all, rest
		}
		all, rest = append(all, p), more
	}
}

// current is the current generation with its records, 0 if there is none, and its truncated bytes.
func (r *reading) current() (int, []string, string) {
	all := r.files()
	slices.Reverse(all)
	for _, n := range all {
		if records, truncated := r.records(n); len(records) > 0 {
			return n, records, truncated
		}
	}
	return 0, nil, ""
}

// does does operations of the disk until one returns an error.
func does(all ...func() api.Errno) api.Errno {
	for _, do := range all {
		if e := do(); e != api.OK {
			return e
		}
	}
	return api.OK
}

func (r *reading) writes(file, s string) api.Errno {
	return does(func() api.Errno { return r.d.Append(file, []byte(s)) }, func() api.Errno { return r.d.Sync(file) })
}

func isLong(p string) bool {
	return len(p) > mostOfRecord
}

func (r *reading) starts(records ...string) api.Errno {
	if slices.ContainsFunc(records, isLong) || len(list(records...)) > mostOfFrame {
		return api.ErrLong
	}
	next := slices.Max(append(r.files(), 0)) + 1
	if next > lastGeneration {
		return api.ErrFull
	}
	return r.writes(r.file(next), first(records...))
}

func (r *reading) open(head string) ([]string, api.Errno) {
	r.err = api.OK
	if isLong(head) {
		return nil, api.ErrLong
	}
	n, records, truncated := r.current()
	e := api.OK
	if n == 0 {
		records = []string{head}
		e = r.starts(head)
	} else if truncated != "" {
		e = r.starts(records...)
	}
	if e != api.OK {
		return nil, e
	}
	n, _, _ = r.current()
	for _, other := range r.files() {
		if other != n {
			if e := r.d.Remove(r.file(other)); e != api.OK {
				return nil, e
			}
		}
	}
	return records, api.OK
}

func (r *reading) append(records ...string) api.Errno {
	switch {
	case r.err != api.OK:
		return r.err
	case slices.ContainsFunc(records, isLong):
		return api.ErrLong
	case len(records) > 0:
		n, _, _ := r.current()
		r.err = r.writes(r.file(n), frames(records...))
	}
	return r.err
}

func (r *reading) begin(head string) api.Errno {
	switch {
	case r.err != api.OK:
		return r.err
	case isLong(head):
		return api.ErrLong
	}
	n, _, _ := r.current()
	r.err = does(func() api.Errno { return r.starts(head) }, func() api.Errno { return r.d.Remove(r.file(n)) })
	return r.err
}

// agrees checks that all questions to j are answered as what is on the disk of r says.
func (r *reading) agrees(t *testing.T, j *journal.Journal, told any) {
	t.Helper()
	n, records, _ := r.current()
	if j.Generation() != int64(n) || j.Count() != len(records)-1 || j.Size() != r.d.Size(r.file(n)) || j.Err() != r.err {
		t.Fatalf("%v: generation %d, not %d; count %d, not %d; size %d, not %d; error %d, not %d", told,
			j.Generation(), n, j.Count(), len(records)-1, j.Size(), r.d.Size(r.file(n)), j.Err(), r.err)
	}
}

// sameDisk checks that two disks have the same.
func sameDisk(t *testing.T, got, want *disk.Disk, told any) {
	t.Helper()
	if got.On() != want.On() || got.Left() != want.Left() || !slices.Equal(got.Names(), want.Names()) {
		t.Fatalf("%v: on: %v, left %d, names %q; not on: %v, left %d, names %q", told, got.On(), got.Left(), got.Names(), want.On(), want.Left(), want.Names())
	}
	if !slices.Equal(contents(got), contents(want)) {
		t.Fatalf("%v: %.99q, not %.99q", told, contents(got), contents(want))
	}
	same := func(a, b api.File) bool { return a.Name == b.Name && string(a.Bytes) == string(b.Bytes) }
	if !slices.EqualFunc(got.Safe(), want.Safe(), same) {
		t.Fatalf("%v: %.99x are safe, not %.99x", told, got.Safe(), want.Safe())
	}
}

// fresh is a new disk with so much room.
func fresh(t *testing.T, room int) *disk.Disk {
	t.Helper()
	d, e := disk.New(room)
	ok(t, e)
	return d
}

// with is a new disk with files, each as its name and its bytes, all of them safe.
func with(t *testing.T, files ...string) *disk.Disk {
	t.Helper()
	d := fresh(t, greatestRoom)
	for i := 0; i < len(files); i += 2 {
		ok(t, d.Append(files[i], []byte(files[i+1])), d.Sync(files[i]))
	}
	return d
}

// opened is the journal x on d, which must have these records.
func opened(t *testing.T, d *disk.Disk, head string, want ...string) *journal.Journal {
	t.Helper()
	j, l, e := journal.Open(d, "x", []byte(head))
	if got := texts(l); e != api.OK || j == nil || !slices.Equal(got, want) || j.Err() != api.OK || j.Count() != len(want)-1 {
		t.Fatalf("%d: %.99q, and not %.99q", e, got, want)
	}
	return j
}

// refused checks that there is no journal, and nothing beside the error.
func refused(t *testing.T, d *disk.Disk, name, head string, want api.Errno) {
	t.Helper()
	if j, l, e := journal.Open(d, name, []byte(head)); j != nil || l != nil || e != want {
		t.Errorf("%.99q, %.99q: %v, %.99q, %d, and not %d", name, head, j, l, e, want)
	}
}

// ok checks that no call returned an error.
func ok(t *testing.T, all ...api.Errno) {
	t.Helper()
	for i, e := range all {
		if e != api.OK {
			t.Fatalf("call %d: %d", i, e)
		}
	}
}

// contents are the files of a disk, each as its name and its bytes.
func contents(d *disk.Disk) []string {
	var all []string
	for _, name := range d.Names() {
		b, _ := d.Read(name)
		all = append(all, name, string(b))
	}
	return all
}

// are checks what the files of a disk are, each as its name and its bytes.
func are(t *testing.T, d *disk.Disk, want ...string) {
	t.Helper()
	if got := contents(d); !slices.Equal(got, want) {
		t.Errorf("the files are %.99q, and not %.99q", got, want)
	}
}

// safeAre checks what is safe, each file as its name and its bytes.
func safeAre(t *testing.T, d *disk.Disk, want ...string) {
	t.Helper()
	var got []string
	for _, f := range d.Safe() {
		got = append(got, f.Name, string(f.Bytes))
	}
	if !slices.Equal(got, want) {
		t.Errorf("%.99q are safe, and not %.99q", got, want)
	}
}

// stands checks what j answers to the questions.
func stands(t *testing.T, j *journal.Journal, generation int64, count, size int, e api.Errno) {
	t.Helper()
	if j.Generation() != generation || j.Count() != count || j.Size() != size || j.Err() != e {
		t.Errorf("generation %d, count %d, size %d, error %d, and not %d, %d, %d, %d", j.Generation(), j.Count(), j.Size(), j.Err(), generation, count, size, e)
	}
}

func texts(l [][]byte) []string {
	var all []string
	for _, p := range l {
		all = append(all, string(p))
	}
	return all
}

func slicesOf(l []string) [][]byte {
	var all [][]byte
	for _, p := range l {
		all = append(all, []byte(p))
	}
	return all
}
