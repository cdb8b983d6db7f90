package octet

import "drawbridge/api"

// Reader reads what was written, and keeps its first error. New makes it.
type Reader struct {
	made  bool // tells a reader of no bytes from one that New did not return
	bytes []byte
	at    int
	err   api.Errno
}

// New returns a reader of a copy of b.
func New(b []byte) *Reader {
	return &Reader{made: true, bytes: withRoom(b, 0)}
}

// Number reads a number: ErrMore if bytes are missing, ErrBad if it is not written as Number does.
func (r *Reader) Number() uint64 {
	if r.Err() != api.OK {
		return 0
	}
	x, size, err := number(r.bytes[r.at:])
	r.at += size
	r.err = err
	return x
}

// Upto reads a number that is at most most: the errors of Number, and ErrLong if it is greater.
func (r *Reader) Upto(most uint64) uint64 {
	// After an error the number is 0, which is above no bound.
	x := r.Number()
	if x > most {
		r.err = api.ErrLong
		return 0
	}
	return x
}

// Block reads a block: the errors of its length, ErrLong if that is too great, ErrMore.
func (r *Reader) Block() []byte {
	return r.Fixed(int(r.Upto(api.MaxBlock)))
}

// Fixed reads n bytes, none if n is below 0: ErrMore if there are fewer.
func (r *Reader) Fixed(n int) []byte {
	if r.Err() != api.OK || n <= 0 {
		return nil
	}
	if n > r.Left() {
		r.err = api.ErrMore
		return nil
	}
	p := withRoom(r.bytes[r.at:r.at+n], 0)
	r.at += n
	return p
}

// Left returns how many bytes are left, after an error too.
func (r *Reader) Left() int {
	if r == nil {
		return 0
	}
	return len(r.bytes) - r.at
}

// Err returns the first error; ErrNil for a reader that New did not return.
func (r *Reader) Err() api.Errno {
	if r == nil || !r.made {
		return api.ErrNil
	}
	return r.err
}

// End returns Err; ErrBad if bytes are left, which is the first error from then on.
func (r *Reader) End() api.Errno {
	if r.Err() == api.OK && r.Left() > 0 {
		r.err = api.ErrBad
	}
	return r.Err()
}

// number returns the number at the beginning of b and how many bytes it takes: none if there is an error.
func number(b []byte) (uint64, int, api.Errno) {
	if len(b) == 0 {
		return 0, 0, api.ErrMore
	}
	size := int(b[0])
	if size > longest {
		return 0, 0, api.ErrBad
	}
	// The chapter names missing bytes ahead of a highest byte of 0.
	if len(b) < 1+size {
		return 0, 0, api.ErrMore
	}
	if size > 0 && b[1] == 0 {
		return 0, 0, api.ErrBad
	}
	x := uint64(0)
	for _, c := range b[1 : 1+size] {
		x = x<<8 | uint64(c)
	}
	return x, 1 + size, api.OK
}
