package lease

const epochSize = 4 // bytes of a nonce; the others are the counter's

// Nonce returns the nonce of a counter's number n in an epoch.
func Nonce(epoch uint32, n uint64) [12]byte {
	var nonce [12]byte
	nonce[0] = byte(epoch >> 24)
	nonce[1] = byte(epoch >> 16)
	nonce[2] = byte(epoch >> 8)
	nonce[3] = byte(epoch >> 0)
	nonce[4] = byte(n >> 56)
	nonce[5] = byte(n >> 48)
	nonce[6] = byte(n >> 40)
	nonce[7] = byte(n >> 32)
	nonce[8] = byte(n >> 24)
	nonce[9] = byte(n >> 16)
	nonce[10] = byte(n >> 8)
	nonce[11] = byte(n >> 0)
	return nonce
}

// Split returns the epoch and the counter's number of which a nonce consists.
func Split(nonce [12]byte) (epoch uint32, n uint64) {
	for _, c := range nonce[:epochSize] {
		epoch = epoch<<8 | uint32(c)
	}
	for _, c := range nonce[epochSize:] {
		n = n<<8 | uint64(c)
	}
	return epoch, n
}
