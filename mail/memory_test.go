package mail_test

import (
	"bytes"
	"fmt"
	"slices"
	"testing"

	"haulage/api"
	"haulage/mail"
)

// spoil writes one byte over a list, and over the room behind it.
func spoil(p []byte) {
	p = p[:cap(p)]
	for i := range p {
		p[i] = 0xEE
	}
}

func spoilMail(m api.Mail) {
	for _, place := range texts(&m) {
		spoil(*place)
	}
}

// roomy is a list with room behind it, and all of that memory.
func roomy(p []byte) (list, all []byte) {
	all = append(bytes.Clone(p), "behind"...)
	return all[:len(p)], all
}

// roomyMail is a message whose lists have room behind them, and all of that memory.
func roomyMail(m api.Mail) (api.Mail, [][]byte) {
	var all [5][]byte
	m.Op.Key, all[0] = roomy(m.Op.Key)
	m.Op.Value, all[1] = roomy(m.Op.Value)
	m.Answer.Key, all[2] = roomy(m.Answer.Key)
	m.Answer.Value, all[3] = roomy(m.Answer.Value)
	m.Copy, all[4] = roomy(m.Copy)
	return m, all[:]
}

// severalMails are sound ones with lists, and some that are not sound.
func severalMails() []api.Mail {
	all := append(fewMails(), offer(3, 4, 5, 6, 7, text(5000, 1)), request(3, 4, 5, 6, put(text(maxKey, 1), text(maxValue, 1))), reply(3, 4, 5, 6, answer(true, text(maxKey, 1), text(maxValue, 1), 7, 8)))
	return append(all, plain(9, 0, 1, 0, 1), request(0, 0, 0, 0, put("key", "value")), request(0, 0, 0, 1, seek(text(66, 1))), reply(0, 0, 0, 1, answer(true, "key", "value", 2, 1)),
		offer(0, 1, 0, 0, 0, "copy"), offer(0, 1, 0, 1, 0, text(maxCopy+1, 1)), api.Mail{Kind: 6, To: 1, Epoch: 1, Copy: []byte("copy"), Op: put("key", "value"), Answer: answer(true, "key", "value", 1, 1)})
}

// P19.6, P0.4: a message's lists, and the room behind them, stay as they are, and are not kept: written over afterwards they change no earlier answer and no later one.
func TestMailsHandedIn(t *testing.T) {
	for _, m := range severalMails() {
		roomed, memory := roomyMail(m)
		before := fmt.Sprint(memory)
		sound := mail.Sound(roomed)
		p, err := mail.Encode(roomed)
		if fmt.Sprint(memory) != before {
			t.Fatalf("%s has changed", short(m))
		}
		spoilMail(roomed)
		wanted, why := []byte(nil), api.ErrMailForm
		if toldSound(m) {
			wanted, why = toldForm(m), api.OK
		}
		if sound != toldSound(m) || !bytes.Equal(p, wanted) || err != why {
			t.Fatalf("%s: Sound %v, %v, error %d", short(m), sound, start(p), int(err))
		}
		wantAsTold(t, m)
	}
}

// P19.6: the room behind lists counts for nothing.
func TestSpareRoomUnread(t *testing.T) {
	for _, m := range severalMails() {
		roomed, _ := roomyMail(m)
		wantAsTold(t, roomed)
		if !toldSound(m) {
			continue
		}
		form := toldForm(m)
		for n := range form {
			wantReadAsTold(t, form[:n:len(form)])
		}
	}
}

// P19.6, P0.4: bytes that are handed in, and the room behind them, stay as they are, and are not kept.
func TestBytesHandedIn(t *testing.T) {
	for _, m := range severalMails() {
		form := toldForm(m)
		p, memory := roomy(form)
		back, err := mail.Decode(p)
		if !bytes.Equal(memory, append(slices.Clone(form), "behind"...)) {
			t.Fatalf("the form of %s has changed", short(m))
		}
		spoil(p)
		if toldSound(m) && (err != api.OK || !alike(back, m)) {
			t.Fatalf("%s is %s when its form is written over", short(m), short(back))
		}
		wantReadAsTold(t, form)
	}
}

// P19.6, P0.4: what is answered is new memory, the room behind it too: written over it changes neither what was handed in, nor another answer.
func TestAnswersApart(t *testing.T) {
	for _, m := range append(fewMails(), offer(3, 4, 5, 6, 7, text(5000, 1))) {
		roomed, memory := roomyMail(m)
		before := fmt.Sprint(memory)
		p, q := encoded(t, roomed), encoded(t, roomed)
		spoil(p)
		if fmt.Sprint(memory) != before || !bytes.Equal(q, toldForm(m)) {
			t.Fatalf("%s: behind a form that was written over: %v", short(m), start(q))
		}
		handed, whole := roomy(q)
		first, _ := mail.Decode(handed)
		second, _ := mail.Decode(handed)
		spoilMail(first)
		if !alike(second, m) || !bytes.Equal(whole, append(toldForm(m), "behind"...)) {
			t.Fatalf("%s: behind a message that was written over: %s", short(m), short(second))
		}
	}
}

// P19.6, P0.4: no two lists of one answer share memory: each written over leaves the others as they are.
func TestListsApart(t *testing.T) {
	for _, m := range append(fewMails(), reply(1, 2, 3, 4, answer(true, text(maxKey, 1), text(maxValue, 1), 7, 8))) {
		form := toldForm(m)
		for name := range texts(&m) {
			back, _ := mail.Decode(form)
			spoil(*texts(&back)[name])
			for rest, place := range texts(&back) {
				if rest != name && !bytes.Equal(*place, *texts(&m)[rest]) {
					t.Fatalf("%s: %s is %v when %s is written over", short(m), rest, start(*place), name)
				}
			}
		}
	}
}

// P19.6: nothing is kept: what was asked ahead of it changes no answer.
func TestNothingKept(t *testing.T) {
	all := severalMails()
	for i, m := range all {
		for _, ahead := range []api.Mail{all[(i+1)%len(all)], all[(i+7)%len(all)]} {
			mail.Encode(ahead)
			mail.Decode(toldForm(ahead))
			wantAsTold(t, m)
			mail.Sound(ahead)
			wantReadAsTold(t, toldForm(m))
		}
	}
}
