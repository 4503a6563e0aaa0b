package mail_test

import (
	"math/rand"
	"slices"
	"testing"

	"haulage/api"
	"haulage/mail"
)

// wantCut asks for the form's error, or for ErrLong if it is too long, behind a sum made anew.
func wantCut(t *testing.T, body []byte) {
	t.Helper()
	wanted := api.Errno(190)
	if len(body)+4 > maxMail {
		wanted = 3
	}
	wantRefused(t, summed(body), wanted)
}

// P19.5: the last bytes ahead of the sum cut off, and the sum made anew.
func TestCut(t *testing.T) {
	for _, m := range fewMails() {
		body := toldBody(m)
		for n := range body {
			wantCut(t, body[:n])
		}
	}
	dice := rand.New(rand.NewSource(9))
	for range 3000 {
		body := toldBody(anySound(dice))
		for range 10 {
			wantCut(t, body[:dice.Intn(len(body))])
		}
		wantCut(t, body[:len(body)-1])
	}
	body := toldBody(offer(7, 6, 63, maxEpoch, 1<<63, text(maxCopy, 1)))
	for _, n := range []int{1, 2, 3, 4, 5, 100, maxCopy, maxCopy + 1, maxCopy + 3, maxCopy + 4} {
		wantCut(t, body[:len(body)-n])
	}
}

// P19.5: bytes put behind, and the sum made anew.
func TestPutBehind(t *testing.T) {
	for _, m := range fewMails() {
		body := toldBody(m)
		for b := range 256 {
			wantCut(t, append(slices.Clone(body), byte(b)))
			wantCut(t, append(slices.Clone(body), byte(b), 0))
		}
		for _, n := range []int{2, 3, 4, 5, 8, 1000} {
			wantCut(t, append(slices.Clone(body), make([]byte, n)...))
			wantCut(t, append(slices.Clone(body), text(n, n)...))
		}
		wantCut(t, append(slices.Clone(body), body...))
		wantCut(t, append(slices.Clone(body), toldForm(m)...))
		wantCut(t, toldForm(m))
	}
	for _, m := range []api.Mail{plain(4, 0, 1, 0, 1), offer(7, 6, 63, maxEpoch, 1<<63, text(maxCopy, 1))} {
		body := toldBody(m)
		for _, n := range []int{maxMail - 5, maxMail - 4, maxMail - 3, maxMail - 2, maxMail} {
			wantCut(t, append(slices.Clone(body), make([]byte, n-len(body))...))
		}
	}
}

// P19.5: no two of many bodies are so that one begins the other. (In the order of bytes one that begins others stands right ahead of such a one.)
func TestNoBodyBeginsAnother(t *testing.T) {
	var bodies []string
	for _, m := range manyMails() {
		p, err := mail.Encode(m)
		if err != api.OK {
			t.Fatalf("Encode of %s: error %d", short(m), int(err))
		}
		bodies = append(bodies, string(p[:len(p)-4]))
	}
	slices.Sort(bodies)
	bodies = slices.Compact(bodies)
	for i := 1; i < len(bodies); i++ {
		if len(bodies[i]) > len(bodies[i-1]) && bodies[i][:len(bodies[i-1])] == bodies[i-1] {
			t.Fatalf("%v begins %v", []byte(bodies[i-1]), []byte(bodies[i]))
		}
	}
}
