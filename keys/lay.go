package keys

import "haulage/api"

// layWord answers p with the eight bytes of a place behind it, the highest first.
func layWord(p []byte, place uint64) []byte {
	for i := range 8 {
		p = append(p, byte(place>>(56-8*i)))
	}
	return p
}

// layText answers p with a text behind it; a byte that might be taken for the end is told by the one behind it.
func layText(p, text []byte) []byte {
	for _, b := range text {
		p = append(p, b)
		if b == end {
			p = append(p, stays)
		}
	}
	return append(p, end)
}

// layValue answers p with the code of a value behind it, of a kind that there is.
func layValue(p []byte, v api.Value) []byte {
	p = append(p, byte(v.Kind))
	switch v.Kind {
	case api.KeyBool:
		p = append(p, placeOfBool(v.Bool))
	case api.KeyInt:
		p = layWord(p, placeOfInt(v.Int))
	case api.KeyReal:
		p = layWord(p, placeOfReal(v.Real))
	case api.KeyPoint:
		p = layWord(p, placeOfReal(real(v.Point)))
		p = layWord(p, placeOfReal(imag(v.Point)))
	case api.KeyText:
		p = layText(p, v.Text)
	case api.KeyTuple:
		p = append(layRow(p, v.Parts), end)
	}
	return p
}

// layRow answers p with the code of a good row behind it.
func layRow(p []byte, row []api.Value) []byte {
	for _, v := range row {
		p = layValue(p, v)
	}
	return p
}
