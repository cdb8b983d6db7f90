package config

import (
	"cmp"
	"sort"

	"drawbridge/api"
)

// byID tells where m is from a peer with that ID in the order of peers: below 0 is before it.
func byID(m api.Member, id int) int {
	return cmp.Compare(m.ID, id)
}

// byPrefix tells where r is from a route with that Addr and Bits in the order of routes: below 0 is before it.
func byPrefix(r api.Route, addr uint32, bits int) int {
	return cmp.Or(cmp.Compare(r.Addr, addr), cmp.Compare(r.Bits, bits))
}

// peerAt returns the index of the peer in a table of peers that is in order, and whether it is there.
func peerAt(c api.Config, id int) (int, bool) {
	return find(c.Peers, func(m api.Member) int { return byID(m, id) })
}

// routeAt returns the index of the route in a table of routes that is in order, and whether it is there.
func routeAt(c api.Config, addr uint32, bits int) (int, bool) {
	return find(c.Routes, func(r api.Route) int { return byPrefix(r, addr, bits) })
}

// find returns the index of what is sought in a table that is in order, and whether it is there; if it is not, the index
// is where it belongs, one past the end if all are before it. where tells where an element is from what is sought.
func find[T any](table []T, where func(T) int) (int, bool) {
	at := sort.Search(len(table), func(i int) bool { return where(table[i]) >= 0 })
	return at, at < len(table) && where(table[at]) == 0
}

// set returns a new table with x at the index that find returned, in place of what is there if it is.
func set[T any](table []T, at int, there bool, x T) []T {
	until := at
	if there {
		until++
	}
	return put(table, at, until, x)
}

// put returns a new table with x in place of what is from the index from until the index until.
func put[T any](table []T, from, until int, x ...T) []T {
	head := append([]T(nil), table[:from]...)
	body := append(head, x...)
	return append(body, table[until:]...)
}

// clone returns a new table. (What slices.Clone returns of an empty one still points to its memory.)
func clone[T any](table []T) []T {
	return append([]T(nil), table...)
}
