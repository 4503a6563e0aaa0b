package mail_test

import (
	"math/rand"
	"slices"
	"testing"
)

// wantTurned holds the bytes from a place on against others, and asks for the sum's error.
func wantTurned(t *testing.T, form []byte, at int, by ...byte) {
	t.Helper()
	turned := slices.Clone(form)
	for i, b := range by {
		turned[at+i] ^= b
	}
	wantRefused(t, turned, 191)
}

// P19.4: each byte of a form turned in each way, the sum's bytes too.
func TestEachByteTurned(t *testing.T) {
	for _, m := range fewMails() {
		form := toldForm(m)
		for i := range form {
			for by := 1; by < 256; by++ {
				wantTurned(t, form, i, byte(by))
			}
		}
	}
}

// P19.4: two, three and four bytes side by side, at each place, across the sum's beginning too: each bit of the first with each of the last, and many ways at random.
func TestBytesSideBySideTurned(t *testing.T) {
	dice := rand.New(rand.NewSource(6))
	for _, m := range fewMails() {
		form := toldForm(m)
		for size := 2; size <= 4; size++ {
			for at := range len(form) - size + 1 {
				by := make([]byte, size)
				for i := range 64 {
					clear(by)
					by[0], by[size-1] = 1<<(i%8), 1<<(i/8)
					wantTurned(t, form, at, by...)
				}
				for range 40 {
					dice.Read(by)
					by[dice.Intn(size)] |= 1 << dice.Intn(8)
					wantTurned(t, form, at, by...)
				}
				wantTurned(t, form, at, []byte{255, 255, 255, 255}[:size]...)
			}
		}
	}
}

// P19.4: what the polynomial of the sum would leave as it is takes more than four bytes: turned by as much of it as four bytes hold, a form is told.
func TestTurnedByThePolynomial(t *testing.T) {
	patterns := [][]byte{{0x78, 0x3B, 0xF6, 0x82}, {0x82, 0xF6, 0x3B, 0x78}, {0xF1, 0x76, 0xEC, 0x05}, {0x05, 0xEC, 0x76, 0xF1}, {0xBC, 0x1D, 0x7B, 0xC1}}
	for _, m := range fewMails() {
		form := toldForm(m)
		for at := range len(form) - 3 {
			for _, by := range patterns {
				wantTurned(t, form, at, by...)
			}
		}
	}
}

// P19.4: any of the last four bytes, in many ways.
func TestSumTurned(t *testing.T) {
	dice := rand.New(rand.NewSource(7))
	for _, m := range append(fewMails(), offer(0, 1, 2, 3, 4, text(5000, 1))) {
		form := toldForm(m)
		sum := len(form) - 4
		for which := 1; which < 16; which++ {
			for range 30 {
				var by [4]byte
				for i := range by {
					if which&(1<<i) != 0 {
						by[i] = byte(1 + dice.Intn(255))
					}
				}
				wantTurned(t, form, sum, by[:]...)
			}
		}
	}
}

// P19.4: in long forms.
func TestLongFormsTurned(t *testing.T) {
	dice := rand.New(rand.NewSource(8))
	for _, n := range []int{1000, 20000, maxCopy} {
		form := toldForm(offer(7, 6, 63, maxEpoch, 1<<63, text(n, n)))
		places := []int{0, 1, 2, 3, 4, 8, 9, 16, 17, 19, 20, 21, len(form) - 8, len(form) - 7, len(form) - 6, len(form) - 5, len(form) - 4}
		for range 20 {
			places = append(places, dice.Intn(len(form)-3))
		}
		for _, at := range places {
			wantTurned(t, form, at, byte(1+dice.Intn(255)))
			wantTurned(t, form, at, byte(1+dice.Intn(255)), byte(dice.Intn(256)), byte(dice.Intn(256)), byte(dice.Intn(256)))
		}
	}
}
