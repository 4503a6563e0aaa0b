package seal

// square is what a row of steps makes of any register: square[i] of the one that has bit i alone. A step of two registers held against each other is their steps held against each other, so that 32 registers say it of all.
type square [32]uint32

// still is the square of no steps.
func still() square {
	var s square
	for i := range s {
		s[i] = 1 << i
	}
	return s
}

// oneByte is the square of the eight steps of a byte.
func oneByte() square {
	s := still()
	for i := range s {
		s[i] = steps(s[i], 8)
	}
	return s
}

// of is what the steps make of a register.
func (s square) of(register uint32) uint32 {
	made := uint32(0)
	for i, r := range s {
		if register>>i&1 == 1 {
			made ^= r
		}
	}
	return made
}

// then is the square of the steps of s and, behind them, those of next.
func (s square) then(next square) square {
	for i := range s {
		s[i] = next.of(s[i])
	}
	return s
}

// manyBytes is the square of the steps of n bytes. It is made of those of 1, 2, 4, 8, .. bytes, since n may be any number: step by step there would be no end.
func manyBytes(n int) square {
	whole, part := still(), oneByte()
	for ; n > 0; n /= 2 {
		if n%2 == 1 {
			whole = whole.then(part)
		}
		part = part.then(part)
	}
	return whole
}

// pass is what the steps of n bytes make of a register. (They come round: 2^31 - 1 bytes leave each register as it was, as no bytes do.)
func pass(register uint32, n int) uint32 {
	whole := manyBytes(n)
	if whole == still() {
		return register
	}
	return whole.of(register)
}

// Join: P2.3.
func Join(a, b uint32, n int) uint32 { return pass(a, n) ^ b }

// Turn: P2.4. The eight steps of the turned byte itself come apart from the others, since n + 1 may be beyond every int.
func Turn(a uint32, n int, by byte) uint32 { return pass(steps(uint32(by), 8), n) ^ a }
