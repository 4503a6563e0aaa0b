package keys

import "haulage/api"

// Each of these takes what stands at the beginning of p, and answers it, what stands behind it, and its fault.

// takeBool takes a byte that is 0 or 1.
func takeBool(p []byte) (bool, []byte, api.Errno) {
	if len(p) == 0 || p[0] > 1 {
		return false, nil, api.ErrKeysForm
	}
	return p[0] == 1, p[1:], api.OK
}

// takeWord is layWord's way back.
func takeWord(p []byte) (uint64, []byte, api.Errno) {
	if len(p) < 8 {
		return 0, nil, api.ErrKeysForm
	}
	place := uint64(0)
	for _, b := range p[:8] {
		place = place<<8 | uint64(b)
	}
	return place, p[8:], api.OK
}

// takeInt takes an int: there is one at every place.
func takeInt(p []byte) (int64, []byte, api.Errno) {
	place, rest, why := takeWord(p)
	if why != api.OK {
		return 0, nil, why
	}
	return intAt(place), rest, api.OK
}

// takeReal refuses the places of other NaNs than the one: no number's code leads there.
func takeReal(p []byte) (float64, []byte, api.Errno) {
	place, rest, why := takeWord(p)
	if why != api.OK {
		return 0, nil, why
	}
	x := realAt(place)
	if placeOfReal(x) != place {
		return 0, nil, api.ErrKeysForm
	}
	return x, rest, api.OK
}

// takePoint takes the real part, and the imaginary one behind it.
func takePoint(p []byte) (complex128, []byte, api.Errno) {
	x, rest, why := takeReal(p)
	if why != api.OK {
		return 0, nil, why
	}
	y, rest, why := takeReal(rest)
	if why != api.OK {
		return 0, nil, why
	}
	return complex(x, y), rest, api.OK
}

// takeText is layText's way back.
func takeText(p []byte) ([]byte, []byte, api.Errno) {
	var text []byte
	for i := 0; i < len(p); i++ {
		if p[i] == end {
			if i+1 == len(p) || p[i+1] != stays {
				return text, p[i+1:], api.OK
			}
			text = append(text, end)
			i++
			continue
		}
		text = append(text, p[i])
	}
	return nil, nil, api.ErrKeysForm
}

// takeTuple takes the parts of a tuple that is in so many others, and the end behind them.
func takeTuple(p []byte, deep int) ([]api.Value, []byte, api.Errno) {
	if deep == api.MaxDeep {
		return nil, nil, api.ErrKeysDeep
	}
	parts, rest, why := takeRow(p, deep+1)
	if why != api.OK {
		return nil, nil, why
	}
	if len(rest) == 0 {
		return nil, nil, api.ErrKeysForm
	}
	return parts, rest[1:], api.OK
}

// takeValue takes a value that is in so many tuples; p has its Kind at least.
func takeValue(p []byte, deep int) (api.Value, []byte, api.Errno) {
	v := api.Value{Kind: int(p[0])}
	rest, why := p[1:], api.OK
	switch v.Kind {
	case api.KeyNone:
	case api.KeyBool:
		v.Bool, rest, why = takeBool(rest)
	case api.KeyInt:
		v.Int, rest, why = takeInt(rest)
	case api.KeyReal:
		v.Real, rest, why = takeReal(rest)
	case api.KeyPoint:
		v.Point, rest, why = takePoint(rest)
	case api.KeyText:
		v.Text, rest, why = takeText(rest)
	case api.KeyTuple:
		v.Parts, rest, why = takeTuple(rest, deep)
	default:
		why = api.ErrKeysForm
	}
	return v, rest, why
}

// takeRow takes values until the bytes are over, or an end stands in the place of a Kind: which of the two has to be, the caller knows.
func takeRow(p []byte, deep int) ([]api.Value, []byte, api.Errno) {
	var row []api.Value
	for len(p) > 0 && p[0] != end {
		v, rest, why := takeValue(p, deep)
		if why != api.OK {
			return nil, nil, why
		}
		row = append(row, v)
		p = rest
	}
	return row, p, api.OK
}
