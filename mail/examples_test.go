package mail_test

import (
	"testing"

	"haulage/api"
)

// P19.1, P19.2, P19.3: the rows of the examples that have a form.
func TestExampleForms(t *testing.T) {
	wantForm(t, request(3, 1, 5, 300, put("a", "\x09")), summed([]byte{1, 103, 1, 5, 172, 2, 2, 1, 97, 1, 9}))
	wantForm(t, request(0, 0, 0, 1, seek("")), summed([]byte{1, 100, 0, 0, 1, 5, 0}))
	wantForm(t, reply(1, 3, 5, 300, answer(true, "a", "\x09", 2, 4)), summed([]byte{2, 1, 103, 5, 172, 2, 0, 1, 1, 97, 1, 9, 2, 4}))
	wantForm(t, refusal(1, 3, 5, 300, frozen, 2), summed([]byte{2, 1, 103, 5, 172, 2, 221, 1, 2}))
	wantForm(t, offer(0, 2, 5, 1, 258, "\x07\x07"), summed([]byte{3, 0, 2, 5, 1, 2, 1, 0, 0, 0, 0, 0, 0, 2, 7, 7}))
	wantForm(t, plain(7, 2, 0, 63, 200), summed([]byte{7, 2, 0, 63, 200, 1}))
}

// P19.1: the row of messages that are not sound.
func TestExampleUnsound(t *testing.T) {
	wantUnsound(t, plain(4, 0, 0, 0, 1))
	wantUnsound(t, plain(4, 0, 1, 0, 0))
	asked := request(1, 0, 0, 1, get("a"))
	asked.From = 100
	wantUnsound(t, asked)
	said := reply(0, 0, 0, 1, api.Answer{})
	said.Hint = 1
	wantUnsound(t, said)
	wantUnsound(t, refusal(0, 0, 0, 1, 2, 0))
}

// P19.2: the row of bytes that are no form.
func TestExampleNoForms(t *testing.T) {
	for b := range 256 {
		wantRefused(t, []byte{4, 0, 1, byte(b), 1, 2, 3}, 190)
	}
	wantRefused(t, summed([]byte{4, 0, 1}), 190)
	turned := toldForm(plain(7, 2, 0, 63, 200))
	turned[3] ^= 4
	wantRefused(t, turned, 191)
}
