package seal

// markBegin and markTimes are those of FNV-1a with 64 bits. markBack undoes markTimes: their product is 1, modulo 2^64.
const (
	markBegin = 14695981039346656037
	markTimes = 1099511628211
	markBack  = 0xCE965057AFF6957B
)

// FNV: P2.6.
func FNV(parts ...[]byte) uint64 {
	mark := uint64(markBegin)
	for _, p := range parts {
		for _, b := range p {
			mark = (mark ^ uint64(b)) * markTimes
		}
	}
	return mark
}

// Back: P2.7. The last byte that was taken is the first to be given back.
func Back(mark uint64, p []byte) uint64 {
	for i := len(p) - 1; i >= 0; i-- {
		mark = mark*markBack ^ uint64(p[i])
	}
	return mark
}
