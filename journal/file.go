package journal

import (
	"slices"
	"strconv"
	"strings"

	"drawbridge/api"
	"drawbridge/disk"
	"drawbridge/octet"
)

const longestName = 8 // bytes

// File returns the name of the file of generation n; ErrArg if the name or n is not valid.
func File(name string, n int64) (string, api.Errno) {
	if !isName(name) || n < 1 || n > api.MaxGeneration {
		return "", api.ErrArg
	}
	return fileName(name, n), api.OK
}

func isName(name string) bool {
	return len(name) >= 1 && len(name) <= longestName && !strings.ContainsFunc(name, isForeign)
}

// isForeign reports whether no name has c.
func isForeign(c rune) bool {
	return c < 'a' || c > 'z'
}

func fileName(name string, n int64) string {
	return name + "." + strconv.FormatInt(n, 10)
}

// generations returns those whose files exist, in ascending order.
func generations(d *disk.Disk, name string) []int64 {
	var all []int64
	for _, file := range d.Names() {
		if n, ok := generation(file, name); ok {
			all = append(all, n)
		}
	}
	// By their names 10 comes before 2.
	slices.Sort(all)
	return all
}

// generation returns which one the file is of, if it is one of that name.
func generation(file, name string) (int64, bool) {
	// What is no number is read as 0; one with leading zeros is read as well, but is not the one that File writes.
	n, _ := strconv.ParseInt(strings.TrimPrefix(file, name+"."), 10, 64)
	if valid, e := File(name, n); e != api.OK || valid != file {
		return 0, false
	}
	return n, true
}

// nextGeneration returns one more than the greatest one whose file exists.
func nextGeneration(d *disk.Disk, name string) int64 {
	return slices.Max(append(generations(d, name), 0)) + 1
}

// readFile returns all records of a generation's file, and how many bytes its complete frames have; none if it does not
// begin with a list.
func readFile(b []byte) (records [][]byte, n int) {
	for p, at := range visit(b) {
		if at > ahead {
			records = append(records, copied(p))
		} else if records = readList(p); len(records) == 0 {
			return nil, 0
		}
		n = at + len(p)
	}
	return records, n
}

// readList returns the records of a list, none if b is not one.
func readList(b []byte) [][]byte {
	r := octet.New(b)
	var records [][]byte
	// The number may be far greater than there are bytes.
	for n := r.Number(); n > 0 && r.Err() == api.OK; n-- {
		records = append(records, r.Block())
	}
	if r.End() != api.OK {
		return nil
	}
	return records
}

// listFrame returns the frame of the list of the records; ErrLong if one of them, or the list, is too long.
func listFrame(records [][]byte) ([]byte, api.Errno) {
	list := octet.Number(nil, uint64(len(records)))
	for _, p := range records {
		// Added to the list, each one would copy it whole.
		block, e := octet.Block(nil, p)
		if e != api.OK {
			return nil, e
		}
		list = append(list, block...)
	}
	return Frame(list)
}

// recordFrames returns a frame for each record; ErrLong if one of them is too long.
func recordFrames(records [][]byte) ([]byte, api.Errno) {
	var b []byte
	for _, p := range records {
		if len(p) > api.MaxRecord {
			return nil, api.ErrLong
		}
		b = appendFrame(b, p)
	}
	return b, api.OK
}
