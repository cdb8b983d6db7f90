package packet

import (
	"drawbridge/aead"
	"drawbridge/api"
	"drawbridge/hkdf"
	"drawbridge/lease"
)

// Key returns the key of a secret for an epoch and a way, which counts modulo 2.
func Key(secret [32]byte, epoch uint32, way int) [32]byte {
	// The lowest bit is the way modulo 2 below 0 too, where % is -1.
	info := append([]byte("data"), byte(epoch>>24), byte(epoch>>16), byte(epoch>>8), byte(epoch), byte(way&1))
	return hkdf.Key(nil, secret[:], info)
}

// Along returns the associated data of p, whatever its Body is; nothing for another kind, or if p is not valid otherwise.
func Along(p api.Packet) []byte {
	if p.Kind != api.PktData || !isHead(p) {
		return nil
	}
	p.Body = nil
	return written(p)
}

// Seal returns the packet with the sealed bytes of plain; ErrLong if there are more than MaxSeal, ErrArg if the packet
// would not be valid.
func Seal(secret [32]byte, way int, session uint64, epoch uint32, n uint64, plain []byte) (api.Packet, api.Errno) {
	if len(plain) > api.MaxSeal {
		return api.Packet{}, api.ErrLong
	}
	p := api.Packet{Kind: api.PktData, Session: session, Epoch: epoch, Count: n}
	// Sealed bytes of a plaintext that is not too long are a valid Body.
	if !isHead(p) {
		return api.Packet{}, api.ErrArg
	}
	// The associated data are a few numbers: they are not too long either.
	sealed, _ := aead.Seal(Key(secret, epoch, way), lease.Nonce(epoch, n), plain, Along(p))
	p.Body = clone(sealed)
	return p, api.OK
}

// Open returns the plaintext of p: the error of Check, ErrArg for another kind, the error of aead.Open.
func Open(secret [32]byte, way int, p api.Packet) ([]byte, api.Errno) {
	if e := Check(p); e != api.OK {
		return nil, e
	}
	if p.Kind != api.PktData {
		return nil, api.ErrArg
	}
	return aead.Open(Key(secret, p.Epoch, way), lease.Nonce(p.Epoch, p.Count), p.Body, Along(p))
}
