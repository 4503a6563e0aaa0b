package mail_test

import (
	"bytes"
	"math"
	"math/rand"
	"slices"
	"testing"

	"haulage/api"
	"haulage/mail"
)

// encoded is an Encode that goes well.
func encoded(t *testing.T, m api.Mail) []byte {
	t.Helper()
	p, err := mail.Encode(m)
	if err != api.OK {
		t.Fatalf("Encode of %s: error %d", short(m), int(err))
	}
	return p
}

// manyMails are the sound ones at the edges, and many at random.
func manyMails() []api.Mail {
	all := append(soundMails(), fewMails()...)
	dice := rand.New(rand.NewSource(4))
	for range 20000 {
		all = append(all, anySound(dice))
	}
	return append(all, offer(1, 2, 3, 4, 5, text(maxCopy, 1)), offer(1, 2, 3, 4, 5, text(maxCopy-1, 1)))
}

// P19.3: Decode of a form is the message; Encode of what Decode answers is what was decoded; unlike messages have unlike forms.
func TestThereAndBack(t *testing.T) {
	seen := map[string]api.Mail{}
	for _, m := range manyMails() {
		p := encoded(t, m)
		back, err := mail.Decode(p)
		if err != api.OK || !alike(back, m) {
			t.Fatalf("%s comes back as %s, error %d", short(m), short(back), int(err))
		}
		if !mail.Sound(back) {
			t.Fatalf("not Sound behind its way: %s", short(back))
		}
		if again := encoded(t, back); !bytes.Equal(again, p) {
			t.Fatalf("%s: %v, then %v", short(m), start(p), start(again))
		}
		if twin, ok := seen[string(p)]; ok && !alike(twin, m) {
			t.Fatalf("one form: %s; %s", short(twin), short(m))
		}
		seen[string(p)] = m
	}
}

// P19.3: whatever Decode takes is what Encode lays down, and no two rows of bytes are one message.
func TestBackAndThere(t *testing.T) {
	letters := []byte{0, 1, 2, 4, 5, 8, 64, 100, 129}
	seen := map[string][]byte{}
	count := 0
	var grow func(p []byte, left int)
	grow = func(p []byte, left int) {
		form := summed(p)
		if m, err := mail.Decode(form); err == api.OK {
			count++
			if again := encoded(t, m); !bytes.Equal(again, form) {
				t.Fatalf("%v is read as %s, which is %v", form, short(m), again)
			}
			if twin, ok := seen[told(m)]; ok {
				t.Fatalf("%v and %v are both %s", twin, form, short(m))
			}
			seen[told(m)] = slices.Clone(form)
		}
		for _, b := range letters {
			if left > 0 {
				grow(append(p[:len(p):len(p)], b), left-1)
			}
		}
	}
	for _, head := range [][]byte{{4}, {1, 101, 0}, {2, 1, 101, 0, 1, 0}, {2, 1, 101, 0, 1}, {3, 0, 1, 0, 1, 0, 0, 0, 0, 0, 0}, {8, 3}} {
		grow(head, 5)
	}
	if count < 1000 {
		t.Errorf("%d forms only", count)
	}
}

// P19.3: each field by itself makes another form.
func TestEachFieldHasItsPlace(t *testing.T) {
	for shape := range shapes {
		base := other(shape)
		form := encoded(t, base)
		var near []api.Mail
		for name := range numbers(&base) {
			for _, n := range []int{-1, 1} {
				m := base
				*numbers(&m)[name] += n
				near = append(near, m)
			}
		}
		for name := range texts(&base) {
			for _, more := range []string{"x", "\x00"} {
				m := base
				*texts(&m)[name] = append(slices.Clone(*texts(&base)[name]), more...)
				near = append(near, m)
			}
		}
		turned := base
		turned.Answer.Done = !base.Answer.Done
		rooted := base
		rooted.Root++
		for _, m := range append(near, turned, rooted) {
			if p, err := mail.Encode(m); err == api.OK && bytes.Equal(p, form) {
				t.Fatalf("%s and %s have one form", short(base), short(m))
			}
		}
	}
}

// P19.3: how long forms are: at least 9 bytes, at most MaxCopy and 24; and of each shape how long at most.
func TestLengths(t *testing.T) {
	least, most := math.MaxInt, 0
	for _, m := range append(manyMails(), offer(7, 0, 63, maxEpoch, 1<<63, text(maxCopy, 1))) {
		n := len(encoded(t, m))
		least, most = min(least, n), max(most, n)
	}
	if least != 9 || most != maxCopy+24 {
		t.Errorf("from %d to %d bytes", least, most)
	}
	key, value := text(maxKey, 1), text(maxValue, 1)
	for _, c := range []struct {
		m    api.Mail
		size int
	}{
		{plain(4, 0, 1, 0, 1), 9}, {plain(8, 7, 6, 63, 127), 9}, {plain(8, 7, 6, 63, 128), 10}, {plain(6, 7, 6, 63, maxEpoch), 13},
		{offer(0, 1, 0, 1, 0, ""), 18}, {offer(0, 1, 0, 1, 0, text(maxCopy, 1)), maxCopy + 20}, {offer(7, 0, 63, maxEpoch, math.MaxUint64, text(maxCopy, 1)), maxCopy + 24},
		{request(0, 0, 0, 1, seek("")), 11}, {request(0, 0, 0, 1, get("a")), 12}, {request(15, 7, 63, maxSeq, swap(key, value, maxRev)), 4 + 5 + 1 + 65 + 258 + 6 + 4},
		{reply(0, 0, 0, 1, api.Answer{}), 15}, {reply(7, 15, 63, maxSeq, answer(true, key, value, maxRev, maxRev)), 4 + 5 + 1 + 1 + 65 + 258 + 6 + 6 + 4},
		{refusal(0, 0, 0, 1, logFull, 0), 11}, {refusal(7, 15, 63, maxSeq, frozen, 7), 16},
	} {
		if p := encoded(t, c.m); len(p) != c.size {
			t.Errorf("%s: %d bytes; wanted %d", short(c.m), len(p), c.size)
		}
	}
}
