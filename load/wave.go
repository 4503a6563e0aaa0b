package load

// slant is the real nearest to the root of a half.
const slant = 0.7071067811865476

// turn is one of the eight turns.
func turn(number int) complex128 {
	turns := [Windows]complex128{
		1, complex(slant, slant), 1i, complex(-slant, slant),
		-1, complex(-slant, -slant), -1i, complex(slant, -slant),
	}
	return turns[number]
}

// turned is a window multiplied by a turn. Its parts are converted each by itself, since a conversion rounds: else they might be held exactly while they are added.
func turned(window float64, by complex128) complex128 {
	return complex(float64(window*real(by)), float64(window*imag(by)))
}

// Wave: P9.5.
func (m *Meter) Wave() [Windows]complex128 {
	var wave [Windows]complex128
	if m == nil {
		return wave
	}
	for k := range wave {
		for t, window := range m.windows {
			wave[k] += turned(window, turn(k*t%Windows))
		}
	}
	return wave
}
