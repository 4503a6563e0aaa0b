package keys_test

import (
	"bytes"
	"math"
	"testing"

	"haulage/api"
	"haulage/keys"
)

// The chapter's table "Examples", row by row.
func TestExamples(t *testing.T) {
	wantCode(t, row(none(), flag(true), flag(false)), 1, 2, 1, 2, 0)

	wantCode(t, row(num(1)), 3, 128, 0, 0, 0, 0, 0, 0, 1)
	wantCode(t, row(num(-1)), 3, 127, 255, 255, 255, 255, 255, 255, 255)

	wantCode(t, row(float(1)), 4, 191, 240, 0, 0, 0, 0, 0, 0)
	wantCode(t, row(float(minusZero)), 4, 127, 255, 255, 255, 255, 255, 255, 255)

	both := row(text(7, 0, 7), tuple(none(), text()))
	wantCode(t, both, 6, 7, 0, 255, 7, 0, 7, 1, 6, 0, 0)
	wantRow(t, []byte{6, 7, 0, 255, 7, 0, 7, 1, 6, 0, 0}, both)

	for _, p := range [][]byte{{2, 2}, {8}, {0}, {3, 1}, {6, 7}, {7, 1}, {6, 0, 255}} {
		wantNoRow(t, p, api.ErrKeysForm)
	}

	deep := bytes.Repeat([]byte{7}, 17)
	wantNoRow(t, deep, api.ErrKeysDeep)
	wantNoRow(t, deep[:16], api.ErrKeysForm)
	wantRow(t, append(bytes.Repeat([]byte{7}, 16), make([]byte, 16)...), row(within(tuple(), 15)))

	wantOrder(t, row(num(2)), row(num(1), num(1)), 1)
	wantOrder(t, row(num(1)), row(num(1), num(1)), -1)
	wantOrder(t, row(float(math.NaN())), row(float(math.Inf(1))), 1)
	wantOrder(t, row(float(0)), row(float(minusZero)), 1)
	wantOrder(t, row(text(7), text(0)), row(text(7, 0)), -1)

	p, q, why := keys.Span(row(flag(true)))
	wantErr(t, "Span", why, api.OK)
	wantBytes(t, "Span, the first", p, []byte{2, 1})
	wantBytes(t, "Span, the second", q, []byte{2, 1, 8})

	wantFault(t, row(kind(0)), api.ErrKeysForm)
	wantFault(t, row(kind(9), none(), within(tuple(), 16)), api.ErrKeysForm)
}
