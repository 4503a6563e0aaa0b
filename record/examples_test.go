package record_test

import (
	"testing"

	"haulage/api"
)

// P16.2, P16.3, P16.4: the rows of the examples that have a form.
func TestExampleForms(t *testing.T) {
	wantForm(t, write(5, 3, 300, put("a", "\x01\x02")), []byte{1, 5, 3, 172, 2, 2, 1, 97, 2, 1, 2})
	wantForm(t, write(0, 0, 1, del("a")), []byte{1, 0, 0, 1, 3, 1, 97})
	wantForm(t, write(0, 0, 1, swap("a", "", 300)), []byte{1, 0, 0, 1, 4, 1, 97, 0, 172, 2})
	wantForm(t, offer(63, 7), []byte{2, 63, 7})
	wantForm(t, install(1, 200, 2, "\x09\x08"), []byte{4, 1, 200, 1, 2, 2, 9, 8})
	wantForm(t, plain(6, 1), []byte{6, 1})
}

// P16.1, P16.2: the row of records that are not sound.
func TestExampleUnsound(t *testing.T) {
	wantUnsound(t, plain(9, 0))
	for kind := 1; kind <= 8; kind++ {
		r := one(kind)
		r.Shard = 64
		wantUnsound(t, r)
	}
	wantUnsound(t, api.Record{Kind: 6, Peer: 1})
	wantUnsound(t, write(0, 0, 1, api.Op{Kind: 1, Key: []byte("a")}))
	wantUnsound(t, write(0, 0, 0, del("a")))
	wantUnsound(t, offer(0, 8))
	wantUnsound(t, install(0, 1, 8, ""))
	wantUnsound(t, install(0, 0, 0, ""))
}

// P16.3: the row of bytes that are no form.
func TestExampleNoForms(t *testing.T) {
	wantNoForm(t, []byte{6})
	wantNoForm(t, []byte{6, 1, 0})
	wantNoForm(t, []byte{6, 129, 0})
	wantNoForm(t, []byte{2, 63, 8})
	wantNoForm(t, []byte{})
	wantNoForm(t, nil)
}
