package session

import (
	"drawbridge/api"
	"drawbridge/lease"
	"drawbridge/packet"
	"drawbridge/window"
)

// Send returns the packet with the sealed bytes of plain, and the end afterwards: the error of Check, ErrLong if there are
// more than MaxSeal, ErrNone if nothing is leased.
func Send(e api.End, plain []byte) (api.Packet, api.End, api.Errno) {
	x := end{End: e}
	if err := x.cannotSend(plain); err != api.OK {
		return api.Packet{}, api.End{}, err
	}
	// The end is valid, and has a number for bytes that are not too many: nothing is refused any more.
	n, out, _ := lease.Take(x.Out)
	p, _ := packet.Seal(x.Session.Secret, x.Way, x.Session.ID, x.Epoch, n, plain)
	x.Out = out
	return p, x.End, api.OK
}

// Knock does Send of no bytes.
func Knock(e api.End) (api.Packet, api.End, api.Errno) {
	return Send(e, nil)
}

// Receive returns the plain bytes of p, and the end afterwards: the error of Check, that of packet.Check, ErrArg for another
// Kind, ErrWho for another Session, ErrOld for a smaller Epoch, ErrArg for a greater one, ErrOld or ErrThere for its Count, the
// error of packet.Open, ErrFull if the Count is not allowed yet.
func Receive(e api.End, p api.Packet) ([]byte, api.End, api.Errno) {
	x := end{End: e}
	if err := x.refusal(p); err != api.OK {
		return nil, api.End{}, err
	}
	plain, err := packet.Open(x.Session.Secret, x.otherWay(), p)
	if err != api.OK {
		return nil, api.End{}, err
	}
	// Only now is the packet known to be the other end's: for one that anybody may have made nothing is allowed.
	in, err := window.Take(x.In, p.Count)
	if err != api.OK {
		return nil, api.End{}, err
	}
	x.In = in
	return plain, x.End, api.OK
}

// cannotSend returns why plain can't be sent, OK if it can.
func (x end) cannotSend(plain []byte) api.Errno {
	if err := Check(x.End); err != api.OK {
		return err
	}
	if len(plain) > api.MaxSeal {
		return api.ErrLong
	}
	if lease.Left(x.Out) == 0 {
		return api.ErrNone
	}
	return api.OK
}

// refusal returns why p is not even opened, OK if it is. Each of the functions that follow returns what it has against p, or
// hands it on to the next one.
func (x end) refusal(p api.Packet) api.Errno {
	if err := Check(x.End); err != api.OK {
		return err
	}
	return x.refusalOfKind(p)
}

func (x end) refusalOfKind(p api.Packet) api.Errno {
	if err := packet.Check(p); err != api.OK {
		return err
	}
	if p.Kind != api.PktData {
		return api.ErrArg
	}
	return x.refusalOfSession(p)
}

func (x end) refusalOfSession(p api.Packet) api.Errno {
	if p.Session != x.Session.ID {
		return api.ErrWho
	}
	return x.refusalOfEpoch(p)
}

func (x end) refusalOfEpoch(p api.Packet) api.Errno {
	if p.Epoch < x.Epoch {
		return api.ErrOld
	}
	if p.Epoch > x.Epoch {
		return api.ErrArg
	}
	return x.refusalOfCount(p)
}

func (x end) refusalOfCount(p api.Packet) api.Errno {
	// What is only not allowed yet may be allowed once the packet is open.
	if _, err := window.Take(x.In, p.Count); err != api.ErrFull {
		return err
	}
	return api.OK
}

// otherWay returns the way in which the other end sends.
func (x end) otherWay() int {
	if x.Way == api.ToGate {
		return api.ToPeer
	}
	return api.ToGate
}
