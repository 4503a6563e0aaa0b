package keys_test

import (
	"bytes"
	"math"
	"testing"

	"haulage/api"
	"haulage/keys"
)

// P4.1: the code of each kind, by its bytes.
func TestCodeOfEachKind(t *testing.T) {
	wantCode(t, nil)
	wantCode(t, row())
	wantCode(t, row(none()), 1)
	wantCode(t, row(flag(false)), 2, 0)
	wantCode(t, row(flag(true)), 2, 1)
	wantCode(t, row(num(0)), 3, 128, 0, 0, 0, 0, 0, 0, 0)
	wantCode(t, row(num(math.MinInt64)), 3, 0, 0, 0, 0, 0, 0, 0, 0)
	wantCode(t, row(num(math.MaxInt64)), 3, 255, 255, 255, 255, 255, 255, 255, 255)
	wantCode(t, row(num(0x0102030405060708)), 3, 129, 2, 3, 4, 5, 6, 7, 8)
	wantCode(t, row(float(0)), 4, 128, 0, 0, 0, 0, 0, 0, 0)
	wantCode(t, row(float(-1)), 4, 64, 15, 255, 255, 255, 255, 255, 255)
	wantCode(t, row(float(math.Inf(1))), 4, 255, 240, 0, 0, 0, 0, 0, 0)
	wantCode(t, row(float(math.Inf(-1))), 4, 0, 15, 255, 255, 255, 255, 255, 255)
	wantCode(t, row(point(1, -1)), 5, 191, 240, 0, 0, 0, 0, 0, 0, 64, 15, 255, 255, 255, 255, 255, 255)
	wantCode(t, row(text()), 6, 0)
	wantCode(t, row(text(0)), 6, 0, 255, 0)
	wantCode(t, row(text(255, 0, 0, 255)), 6, 255, 0, 255, 0, 255, 255, 0)
	wantCode(t, row(tuple()), 7, 0)
	wantCode(t, row(tuple(tuple(), none()), flag(true)), 7, 7, 0, 1, 0, 2, 1)
}

// P4.1: every NaN has the code of the one, as a real number and in both parts of a point.
func TestCodeOfNaNs(t *testing.T) {
	one := []byte{255, 248, 0, 0, 0, 0, 0, 0}
	zero := []byte{128, 0, 0, 0, 0, 0, 0, 0}
	for _, x := range append(otherNaNs(), oneNaN, math.NaN()) {
		wantCode(t, row(float(x)), append([]byte{4}, one...)...)
		wantCode(t, row(point(x, 0)), bytes.Join([][]byte{{5}, one, zero}, nil)...)
		wantCode(t, row(point(0, x)), bytes.Join([][]byte{{5}, zero, one}, nil)...)
	}
}

// P4.1: rows of all sorts, with something in the fields that count for nothing.
func TestCodes(t *testing.T) {
	for _, r := range append(someRows(1, 20000), edgeRows()...) {
		wantCode(t, r, modelCode(r)...)
	}
}

// wrongKinds are all but 1 to 7; some of them have the bytes of right ones.
func wrongKinds() []int {
	return []int{0, -1, -7, math.MinInt, math.MinInt + 1, 8, 9, 255, 256, 257, 263, 1<<32 + 1, 1<<32 + 7, math.MaxInt}
}

// P4.1: Kinds below 1, of 7 and above, alone, behind others and in tuples.
func TestWrongKinds(t *testing.T) {
	for _, k := range wrongKinds() {
		wantFault(t, row(kind(k)), api.ErrKeysForm)
		wantFault(t, row(text(1), tuple(), num(2), kind(k)), api.ErrKeysForm)
		wantFault(t, row(kind(k), none()), api.ErrKeysForm)
		wantFault(t, row(tuple(none(), kind(k))), api.ErrKeysForm)
		for _, tuples := range []int{1, 2, 15, 16} {
			wantFault(t, row(within(kind(k), tuples)), api.ErrKeysForm)
		}
	}
	for k := api.KeyNone; k <= api.KeyTuple; k++ {
		wantCode(t, row(kind(k)), modelCode(row(kind(k)))...)
	}
}

// P4.1: values in 15, in 16 and in 17 tuples.
func TestDepth(t *testing.T) {
	for _, v := range row(none(), flag(true), num(1), float(1), point(1, 2), text(0), text()) {
		for tuples := range 17 {
			r := row(within(v, tuples))
			wantCode(t, r, modelCode(r)...)
		}
		wantFault(t, row(within(v, 17)), api.ErrKeysDeep)
		wantFault(t, row(within(v, 18)), api.ErrKeysDeep)
		wantFault(t, row(within(v, 1000)), api.ErrKeysDeep)
	}
	for tuples := range 16 {
		r := row(within(tuple(), tuples), none())
		wantCode(t, r, modelCode(r)...)
	}
	wantFault(t, row(within(tuple(), 16)), api.ErrKeysDeep)
	wantFault(t, row(within(tuple(), 17)), api.ErrKeysDeep)
}

// P4.1: deep tuples side by side are as deep as one of them.
func TestDepthIsNoSum(t *testing.T) {
	deep := within(none(), 15)
	r := row(tuple(deep, deep, text(0), deep), deep, tuple(deep))
	wantCode(t, r, modelCode(r)...)
	wantFault(t, append(r, within(deep, 2)), api.ErrKeysDeep)
}

// P4.1: of several faults the first from the left is the answer, a tuple's own ahead of that of its parts.
func TestFirstFault(t *testing.T) {
	deep, form := within(none(), 17), kind(9)
	for _, c := range []struct {
		r   []api.Value
		err api.Errno
	}{
		{row(form, deep), api.ErrKeysForm},
		{row(deep, form), api.ErrKeysDeep},
		{row(none(), tuple(form), deep), api.ErrKeysForm},
		{row(none(), deep, tuple(form)), api.ErrKeysDeep},
		{row(tuple(within(none(), 15), form), deep), api.ErrKeysForm},
		{row(tuple(within(none(), 16), form), form), api.ErrKeysDeep},
		{row(within(form, 16), deep), api.ErrKeysForm},
		{row(within(form, 17)), api.ErrKeysDeep},
		{row(within(tuple(form, tuple()), 15)), api.ErrKeysForm},
		{row(within(tuple(tuple(), form), 15)), api.ErrKeysDeep},
	} {
		wantFault(t, c.r, c.err)
	}
}

// P4.1: a Kind that is none has no parts that could be gone through, nor has one that is no tuple's.
func TestPartsOfOtherKinds(t *testing.T) {
	parts := row(kind(9), within(none(), 20))
	for k := api.KeyNone; k < api.KeyTuple; k++ {
		r := row(api.Value{Kind: k, Parts: parts})
		wantCode(t, r, modelCode(r)...)
	}
	wantFault(t, row(api.Value{Kind: 8, Parts: row(within(none(), 20))}), api.ErrKeysForm)
}

// P0.1: a row that has itself as a part is too deep, and every call ends.
func TestRowInItself(t *testing.T) {
	round := row(none(), tuple(), tuple())
	round[1].Parts, round[2].Parts = round, round
	wantFault(t, round, api.ErrKeysDeep)
	if n, why := keys.Compare(round, round); n != 0 || why != api.ErrKeysDeep {
		t.Fatalf("Compare: %d, error %d", n, why)
	}
	round[0] = kind(0)
	wantFault(t, round, api.ErrKeysForm)
}
