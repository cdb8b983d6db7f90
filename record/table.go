package record

import (
	"cmp"
	"slices"

	"drawbridge/api"
)

// The tables here are of anything with an ID, which the function id tells, in ascending order of ID.

func sessionID(s api.Session) uint64 { return s.ID }

func flowID(f api.Flow) uint64 { return f.ID }

// ascends reports whether the IDs of a table are in ascending order, from 1 on.
func ascends[T any](table []T, id func(T) uint64) bool {
	last := uint64(0)
	for _, x := range table {
		if id(x) <= last {
			return false
		}
		last = id(x)
	}
	return true
}

// find returns the index of what has the ID in a table, and whether it is there; if it is not, the index is where it
// belongs.
func find[T any](table []T, id func(T) uint64, sought uint64) (int, bool) {
	return slices.BinarySearchFunc(table, sought, func(x T, sought uint64) int { return cmp.Compare(id(x), sought) })
}

// with returns the table, which it changes, with x in place of what has its ID, or where it belongs.
func with[T any](table []T, id func(T) uint64, x T) []T {
	at, there := find(table, id, id(x))
	if there {
		table[at] = x
		return table
	}
	return slices.Insert(table, at, x)
}

// without returns the table, which it changes, without what has the ID.
func without[T any](table []T, id func(T) uint64, sought uint64) []T {
	at, there := find(table, id, sought)
	if !there {
		return table
	}
	return slices.Delete(table, at, at+1)
}

// clone returns a new table. (What slices.Clone returns of an empty one still points to its memory.)
func clone[T any](table []T) []T {
	return append([]T(nil), table...)
}
