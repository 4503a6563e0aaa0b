package dice

// stride is by how much a state goes on; strideBack times it is 1, as 2^64 cuts the product off.
const (
	stride     = 0x9E3779B97F4A7C15
	strideBack = 0xF1DE83E19937733D
)

// first and second are the factors of stirring; each one's back is to it what strideBack is to the stride.
const (
	first      = 0xBF58476D1CE4E5B9
	firstBack  = 0x96DE1B173F119089
	second     = 0x94D049BB133111EB
	secondBack = 0x319642B2D24D8EC3
)

// Mix: P7.1.
func Mix(x uint64) uint64 {
	x ^= x >> 30
	x *= first
	x ^= x >> 27
	x *= second
	x ^= x >> 31
	return x
}

// Unmix: P7.1. Stirring's steps taken back, the last first. A shift is taken back by itself and by twice itself; three times would be beyond 64 bits, at each of the three.
func Unmix(x uint64) uint64 {
	x ^= x>>31 ^ x>>62
	x *= secondBack
	x ^= x>>27 ^ x>>54
	x *= firstBack
	x ^= x>>30 ^ x>>60
	return x
}

// Steps: P7.2.
func Steps(from, to uint64) uint64 { return (to - from) * strideBack }
