package keys_test

import (
	"bytes"
	"cmp"
	"encoding/binary"
	"math"

	"haulage/api"
)

// modelReal are the eight bytes of a real number, as the chapter tells it.
func modelReal(x float64) []byte {
	bits := math.Float64bits(x)
	if x != x {
		bits = 0x7FF8000000000000
	}
	p := binary.BigEndian.AppendUint64(nil, bits)
	if p[0] < 128 {
		p[0] += 128
		return p
	}
	for i := range p {
		p[i] = 255 - p[i]
	}
	return p
}

// modelCode is the code of a good row, as the chapter tells it.
func modelCode(r []api.Value) []byte {
	var p []byte
	for _, v := range r {
		p = append(p, byte(v.Kind))
		switch v.Kind {
		case api.KeyBool:
			p = append(p, map[bool]byte{true: 1}[v.Bool])
		case api.KeyInt:
			q := binary.BigEndian.AppendUint64(nil, uint64(v.Int))
			q[0] ^= 128
			p = append(p, q...)
		case api.KeyReal:
			p = append(p, modelReal(v.Real)...)
		case api.KeyPoint:
			p = append(p, modelReal(real(v.Point))...)
			p = append(p, modelReal(imag(v.Point))...)
		case api.KeyText:
			p = append(p, bytes.ReplaceAll(v.Text, []byte{0}, []byte{0, 255})...)
			p = append(p, 0)
		case api.KeyTuple:
			p = append(p, modelCode(v.Parts)...)
			p = append(p, 0)
		}
	}
	return p
}

// modelPlain is a good row without what counts for nothing, and with the one NaN.
func modelPlain(r []api.Value) []api.Value {
	plain := func(x float64) float64 {
		if x != x {
			return oneNaN
		}
		return x
	}
	var all []api.Value
	for _, v := range r {
		w := api.Value{Kind: v.Kind}
		switch v.Kind {
		case api.KeyBool:
			w.Bool = v.Bool
		case api.KeyInt:
			w.Int = v.Int
		case api.KeyReal:
			w.Real = plain(v.Real)
		case api.KeyPoint:
			w.Point = complex(plain(real(v.Point)), plain(imag(v.Point)))
		case api.KeyText:
			w.Text = bytes.Clone(v.Text)
		case api.KeyTuple:
			w.Parts = modelPlain(v.Parts)
		}
		all = append(all, w)
	}
	return all
}

// oneIf is 1 of true and 0 of false.
func oneIf(b bool) int {
	if b {
		return 1
	}
	return 0
}

// modelReals orders real numbers as numbers, but for -0 and NaN.
func modelReals(a, b float64) int {
	if a != a || b != b {
		return oneIf(a != a) - oneIf(b != b)
	}
	if a == 0 && b == 0 {
		return oneIf(math.Signbit(b)) - oneIf(math.Signbit(a))
	}
	return oneIf(a > b) - oneIf(a < b)
}

// modelValues orders values, as the chapter tells it.
func modelValues(a, b api.Value) int {
	if a.Kind != b.Kind {
		return cmp.Compare(a.Kind, b.Kind)
	}
	switch a.Kind {
	case api.KeyBool:
		return oneIf(a.Bool) - oneIf(b.Bool)
	case api.KeyInt:
		return cmp.Compare(a.Int, b.Int)
	case api.KeyReal:
		return modelReals(a.Real, b.Real)
	case api.KeyPoint:
		if n := modelReals(real(a.Point), real(b.Point)); n != 0 {
			return n
		}
		return modelReals(imag(a.Point), imag(b.Point))
	case api.KeyText:
		return cmp.Compare(string(a.Text), string(b.Text))
	case api.KeyTuple:
		return modelRows(a.Parts, b.Parts)
	}
	return 0
}

// modelRows orders rows, as the chapter tells it.
func modelRows(a, b []api.Value) int {
	for i := range min(len(a), len(b)) {
		if n := modelValues(a[i], b[i]); n != 0 {
			return n
		}
	}
	return cmp.Compare(len(a), len(b))
}

// modelBegins says whether a row is the beginning of another.
func modelBegins(r, u []api.Value) bool {
	return len(r) <= len(u) && modelRows(r, u[:len(r)]) == 0
}

// modelWords looks at the bytes of so many real numbers: those below minus infinity's, and those above infinity's but for the one, are none's.
func modelWords(p []byte, many int) bool {
	for i := range many {
		word := binary.BigEndian.Uint64(p[8*i:])
		if word < 0x000FFFFFFFFFFFFF || word > 0xFFF0000000000000 && word != 0xFFF8000000000000 {
			return false
		}
	}
	return true
}

// modelTextEnd is what stands behind a text's end, if it has one.
func modelTextEnd(p []byte) ([]byte, bool) {
	for {
		_, rest, found := bytes.Cut(p, []byte{0})
		if !found {
			return nil, false
		}
		if len(rest) == 0 || rest[0] != 255 {
			return rest, true
		}
		p = rest[1:]
	}
}

// modelFault is the first one of some bytes, which it goes over once, counting the tuples that are open.
func modelFault(p []byte) api.Errno {
	open := 0
	for len(p) > 0 {
		kind, size, reals := p[0], 0, 0
		p = p[1:]
		switch kind {
		case 0:
			open--
		case 1:
		case 2:
			size = 1
		case 3:
			size = 8
		case 4:
			size, reals = 8, 1
		case 5:
			size, reals = 16, 2
		case 6:
			rest, found := modelTextEnd(p)
			if !found {
				return api.ErrKeysForm
			}
			p = rest
		case 7:
			open++
		default:
			return api.ErrKeysForm
		}
		if open > 16 {
			return api.ErrKeysDeep
		}
		if open < 0 || len(p) < size || !modelWords(p, reals) || kind == 2 && p[0] > 1 {
			return api.ErrKeysForm
		}
		p = p[size:]
	}
	if open > 0 {
		return api.ErrKeysForm
	}
	return api.OK
}
