package poly

const (
	width = 26           // of a limb, in bits
	low   = 1<<width - 1 // the bits of a limb
	wrap  = 5            // what 2^130 is, modulo the modulus 2^130 - 5
	sign  = 64 - 1       // the place of the highest bit of a difference
)

// limbs is a number: its limbs, the lowest first. Some sums have limbs that are not carried yet.
type limbs [5]uint64

// number returns the number of p, at most sixteen bytes, with the byte above appended.
func number(p []byte, above byte) limbs {
	var b [blockSize + 1]byte
	b[copy(b[:blockSize], p)] = above
	x, y := word(b[:]), word(b[8:])
	return limbs{
		x & low,
		x >> width & low,
		(x>>(2*width) | y<<12) & low,
		y >> 14 & low,
		y>>40 | uint64(b[blockSize])<<24,
	}
}

// word returns the first eight bytes of p as a number, the lowest byte first.
func word(p []byte) uint64 {
	x := uint64(0)
	for i, c := range p[:8] {
		x |= uint64(c) << (8 * i)
	}
	return x
}

// bytes returns the lowest sixteen bytes of a, whose limbs are carried.
func (a limbs) bytes() [blockSize]byte {
	x := a[0] | a[1]<<width | a[2]<<(2*width)
	y := a[2]>>12 | a[3]<<14 | a[4]<<40
	var b [blockSize]byte
	for i := range 8 {
		b[i] = byte(x >> (8 * i))
		b[8+i] = byte(y >> (8 * i))
	}
	return b
}

// plus returns a + b, not carried.
func plus(a, b limbs) limbs {
	for i := range a {
		a[i] += b[i]
	}
	return a
}

// times returns a * b modulo the modulus, not carried. No limb passes 64 bits while those of a are below 2^28 and those
// of b below 2^26: each is a sum of products of which there are at most 21.
func times(a, b limbs) limbs {
	return limbs{
		a[0]*b[0] + wrap*(a[1]*b[4]+a[2]*b[3]+a[3]*b[2]+a[4]*b[1]),
		a[0]*b[1] + a[1]*b[0] + wrap*(a[2]*b[4]+a[3]*b[3]+a[4]*b[2]),
		a[0]*b[2] + a[1]*b[1] + a[2]*b[0] + wrap*(a[3]*b[4]+a[4]*b[3]),
		a[0]*b[3] + a[1]*b[2] + a[2]*b[1] + a[3]*b[0] + wrap*(a[4]*b[4]),
		a[0]*b[4] + a[1]*b[3] + a[2]*b[2] + a[3]*b[1] + a[4]*b[0],
	}
}

// carry returns a carried, and what is left above its highest limb.
func carry(a limbs) (limbs, uint64) {
	over := uint64(0)
	for i := range a {
		a[i] += over
		over = a[i] >> width
		a[i] &= low
	}
	return a, over
}

// fold returns a carried modulo the modulus, where the second limb may pass its bits again by a little.
func fold(a limbs) limbs {
	a, over := carry(a)
	a[0] += wrap * over
	a[1] += a[0] >> width
	a[0] &= low
	return a
}

// reduce returns a sum, as fold returns it, modulo the modulus.
func reduce(sum limbs) limbs {
	// What passes the second limb's bits is so little that after another fold nothing does: the sum is below 2^130.
	sum = fold(sum)
	less, borrow := minus(sum, limbs{low - wrap + 1, low, low, low, low})
	// All bits of keep are 1 if the sum is below the modulus. A branch would tell it by the time that it takes.
	keep := -borrow
	for i := range sum {
		sum[i] = sum[i]&keep | less[i]&^keep
	}
	return sum
}

// minus returns a - b of carried limbs, and 1 if a is below b: then the difference is of no use.
func minus(a, b limbs) (limbs, uint64) {
	borrow := uint64(0)
	for i := range a {
		a[i] -= b[i] + borrow
		borrow = a[i] >> sign
		a[i] &= low
	}
	return a, borrow
}
