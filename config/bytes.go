package config

import (
	"math"

	"drawbridge/api"
	"drawbridge/octet"
)

// Bytes returns the bytes of c: the error of Check.
func Bytes(c api.Config) ([]byte, api.Errno) {
	if e := Check(c); e != api.OK {
		return nil, e
	}
	b := appendNumbers(nil, uint64(len(c.Peers)))
	for _, m := range c.Peers {
		b = appendNumbers(b, uint64(m.ID))
		b = append(b, m.Key[:]...)
		b = appendNumbers(b, number(m.Off))
	}
	b = appendNumbers(b, uint64(len(c.Routes)))
	for _, r := range c.Routes {
		b = appendNumbers(b, uint64(r.Addr), uint64(r.Bits), uint64(r.Peer))
	}
	return b, api.OK
}

// Read returns the configuration whose bytes b is; ErrBad if there is none.
func Read(b []byte) (api.Config, api.Errno) {
	r := octet.New(b)
	var c api.Config
	for range r.Upto(api.MaxPeers) {
		c.Peers = append(c.Peers, api.Member{ID: int(r.Upto(api.MaxID)), Key: key(r), Off: r.Upto(1) == 1})
	}
	for range r.Upto(api.MaxRoutes) {
		c.Routes = append(c.Routes, api.Route{Addr: address(r), Bits: int(r.Upto(width)), Peer: int(r.Upto(api.MaxID))})
	}
	// Bytes writes no configuration that is not valid.
	if r.End() != api.OK || Check(c) != api.OK {
		return api.Config{}, api.ErrBad
	}
	return c, api.OK
}

// OpBytes returns the bytes of o: the error of CheckOp.
func OpBytes(o api.Op) ([]byte, api.Errno) {
	if e := CheckOp(o); e != api.OK {
		return nil, e
	}
	b := appendNumbers(nil, uint64(o.Kind), o.Ref, uint64(o.ID))
	b = append(b, o.Key[:]...)
	return appendNumbers(b, uint64(o.Addr), uint64(o.Bits)), api.OK
}

// ReadOp returns the operation whose bytes b is; ErrBad if there is none.
func ReadOp(b []byte) (api.Op, api.Errno) {
	r := octet.New(b)
	o := api.Op{
		Kind: int(r.Upto(api.OpBlock)),
		Ref:  r.Number(),
		ID:   int(r.Upto(api.MaxID)),
		Key:  key(r),
		Addr: address(r),
		Bits: int(r.Upto(width)),
	}
	// OpBytes writes no operation that is not valid.
	if r.End() != api.OK || CheckOp(o) != api.OK {
		return api.Op{}, api.ErrBad
	}
	return o, api.OK
}

func appendNumbers(b []byte, numbers ...uint64) []byte {
	for _, x := range numbers {
		// octet.Number copies all that the number is to follow: it is given nothing.
		b = append(b, octet.Number(nil, x)...)
	}
	return b
}

func number(is bool) uint64 {
	if is {
		return 1
	}
	return 0
}

func key(r *octet.Reader) [32]byte {
	var k [32]byte
	// After an error there are fewer bytes.
	copy(k[:], r.Fixed(len(k)))
	return k
}

func address(r *octet.Reader) uint32 {
	return uint32(r.Upto(math.MaxUint32))
}
