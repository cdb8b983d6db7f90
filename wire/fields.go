package wire

import "drawbridge/api"

// The fields that not all entries have, a bit each.
const (
	entryOp = 1 << iota
	entryID
	entryPeer
	entrySecret
)

// The fields that not all messages have, a bit each.
const (
	msgEpoch = 1 << iota
	msgIndex
	msgPrev
	msgUpto
	msgRef
	msgNode
	msgIs
	msgEntries
	msgBody
)

// entryFields returns the fields of an entry of that kind; none if there is no such kind.
func entryFields(kind int) int {
	if kind < api.EntOp || kind > api.EntShut {
		return 0
	}
	fields := [...]int{
		api.EntOp:   entryOp,
		api.EntOpen: entryID | entryPeer | entrySecret,
		api.EntShut: entryID,
	}
	return fields[kind]
}

// msgFields returns the fields of a message of that kind; none if there is no such kind.
func msgFields(kind int) int {
	if kind < api.MsgBeat || kind > api.MsgBase {
		return 0
	}
	fields := [...]int{
		api.MsgBeat:   msgEpoch | msgIndex | msgUpto,
		api.MsgAppend: msgEpoch | msgIndex | msgPrev | msgEntries | msgUpto,
		api.MsgHave:   msgEpoch | msgIndex | msgIs,
		api.MsgAsk:    msgRef,
		api.MsgClaim:  msgRef | msgEpoch | msgNode,
		api.MsgTold:   msgRef | msgEpoch | msgNode,
		api.MsgBase:   msgEpoch | msgIndex | msgPrev | msgBody,
	}
	return fields[kind]
}

// entryUsed returns the fields of e that are not zero.
func entryUsed(e api.Entry) int {
	return mask(entryOp, e.Op != api.Op{}) | mask(entryID, e.Session.ID != 0) | mask(entryPeer, e.Session.Peer != 0) |
		mask(entrySecret, e.Session.Secret != [32]byte{})
}

// msgUsed returns the fields of m that are not zero.
func msgUsed(m api.Msg) int {
	return mask(msgEpoch, m.Epoch != 0) | mask(msgIndex, m.Index != 0) | mask(msgPrev, m.Prev != 0) |
		mask(msgUpto, m.Upto != 0) | mask(msgRef, m.Ref != 0) | mask(msgNode, m.Node != 0) | mask(msgIs, m.Is) |
		mask(msgEntries, len(m.Entries) != 0) | mask(msgBody, len(m.Body) != 0)
}

// mask returns the bit if it is to be set.
func mask(bit int, is bool) int {
	if is {
		return bit
	}
	return 0
}
