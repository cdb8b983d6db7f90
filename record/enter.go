package record

import (
	"slices"

	"drawbridge/api"
	"drawbridge/config"
	"drawbridge/wire"
)

// Enter returns the base after applying e: the errors of CheckBase and of wire.CheckEntry, ErrArg if e does not continue b.
func Enter(b api.Base, e api.Entry) (api.Base, api.Errno) {
	if err := CheckBase(b); err != api.OK {
		return api.Base{}, err
	}
	if err := wire.CheckEntry(e); err != api.OK {
		return api.Base{}, err
	}
	if !continues(b.Index, b.Epoch, e) {
		return api.Base{}, api.ErrArg
	}
	after := copiedBase(b)
	switch e.Kind {
	case api.EntOp:
		after = operate(after, e.Op)
	case api.EntOpen:
		after.Sessions = open(after, e.Session)
	case api.EntShut:
		after.Sessions = without(after.Sessions, sessionID, e.Session.ID)
	}
	after.Index, after.Epoch = e.Index, e.Epoch
	return after, api.OK
}

// operate returns b, whose tables it changes, after an operation, which has an effect only once.
func operate(b api.Base, o api.Op) api.Base {
	if _, had := seen(b.Refs)[o.Ref]; had {
		return b
	}
	b.Refs = append(b.Refs, o.Ref)
	if len(b.Refs) > api.MaxRefs {
		b.Refs = slices.Delete(b.Refs, 0, 1)
	}
	// Also an operation that is not possible is one that was seen.
	c, e := config.Do(b.Config, o)
	if e != api.OK {
		return b
	}
	b.Config = c
	if o.Kind == api.OpOff || o.Kind == api.OpDrop {
		b.Sessions = slices.DeleteFunc(b.Sessions, func(s api.Session) bool { return s.Peer == o.ID })
	}
	return b
}

// seen has the Refs of the operations that were seen.
func seen(refs []uint64) map[uint64]struct{} {
	had := make(map[uint64]struct{}, len(refs))
	for _, ref := range refs {
		had[ref] = struct{}{}
	}
	return had
}

// open returns the sessions of b, which it changes, with s, if its peer may have one.
func open(b api.Base, s api.Session) []api.Session {
	if m, there := config.Member(b.Config, s.Peer); !there || m.Off {
		return b.Sessions
	}
	// The smallest ID makes room ahead of s, also for one whose ID is smaller still.
	if _, there := find(b.Sessions, sessionID, s.ID); !there && len(b.Sessions) == api.MaxSessions {
		b.Sessions = slices.Delete(b.Sessions, 0, 1)
	}
	return with(b.Sessions, sessionID, s)
}
