package record_test

import (
	"bytes"
	"fmt"
	"slices"
	"testing"

	"haulage/api"
	"haulage/record"
)

// spoil writes one byte over a list, and over the room behind it.
func spoil(p []byte) {
	p = p[:cap(p)]
	for i := range p {
		p[i] = 0xEE
	}
}

func spoilRecord(r api.Record) {
	spoil(r.Op.Key)
	spoil(r.Op.Value)
	spoil(r.Copy)
}

// roomy is a list with room behind it, and all of that memory.
func roomy(p []byte) (list, all []byte) {
	all = append(bytes.Clone(p), "behind"...)
	return all[:len(p)], all
}

// roomyRecord is a record whose lists have room behind them, and all of that memory.
func roomyRecord(r api.Record) (api.Record, [][]byte) {
	var all [3][]byte
	r.Op.Key, all[0] = roomy(r.Op.Key)
	r.Op.Value, all[1] = roomy(r.Op.Value)
	r.Copy, all[2] = roomy(r.Copy)
	return r, all[:]
}

// severalRecords are sound ones with lists, and some that are not sound.
func severalRecords() []api.Record {
	all := append(fewRecords(), install(3, 4, 5, text(5000, 1)), write(3, 4, 5, put(text(maxKey, 1), text(maxValue, 1))))
	return append(all, plain(9, 0), write(0, 0, 0, put("key", "value")), write(0, 0, 1, api.Op{Kind: 1, Key: []byte("key")}), install(0, 0, 0, "copy"), install(0, 1, 0, text(maxCopy+1, 1)), api.Record{Kind: 6, Copy: []byte("copy"), Op: put("key", "value")})
}

// P16.7, P0.4: a record's lists, and the room behind them, stay as they are, and are not kept: written over afterwards they change no earlier answer and no later one.
func TestRecordsHandedIn(t *testing.T) {
	for _, r := range severalRecords() {
		roomed, memory := roomyRecord(r)
		before := fmt.Sprint(memory)
		sound := record.Sound(roomed)
		p, err := record.Encode(roomed)
		n, why := record.Size(roomed)
		if fmt.Sprint(memory) != before {
			t.Fatalf("%s has changed", short(r))
		}
		spoilRecord(roomed)
		wanted, size := []byte(nil), 0
		if toldSound(r) {
			wanted = toldForm(r)
			size = len(wanted)
		}
		if sound != toldSound(r) || !bytes.Equal(p, wanted) || n != size || err != why {
			t.Fatalf("%s: Sound %v, %v, %d, errors %d and %d", short(r), sound, p[:min(len(p), 80)], n, err, why)
		}
		wantAsTold(t, r)
	}
}

// P16.7: the room behind lists counts for nothing.
func TestSpareRoomUnread(t *testing.T) {
	for _, r := range severalRecords() {
		roomed, _ := roomyRecord(r)
		wantAsTold(t, roomed)
		if !toldSound(r) {
			continue
		}
		form := toldForm(r)
		for n := range form {
			wantNoForm(t, form[:n:len(form)])
		}
	}
}

// P16.7, P0.4: bytes that are handed in, and the room behind them, stay as they are, and are not kept.
func TestBytesHandedIn(t *testing.T) {
	for _, r := range severalRecords() {
		form := toldForm(r)
		p, memory := roomy(form)
		back, err := record.Decode(p)
		if !bytes.Equal(memory, append(slices.Clone(form), "behind"...)) {
			t.Fatalf("the form of %s has changed", short(r))
		}
		spoil(p)
		if toldSound(r) && (err != api.OK || !alike(back, r)) {
			t.Fatalf("%s is %s when its form is written over", short(r), short(back))
		}
		wantReadAsTold(t, form)
	}
}

// P16.7, P0.4: what is answered is new memory, the room behind it too: written over it changes neither what was handed in, nor another list or answer.
func TestAnswersApart(t *testing.T) {
	for _, r := range append(fewRecords(), install(3, 4, 5, text(5000, 1))) {
		roomed, memory := roomyRecord(r)
		before := fmt.Sprint(memory)
		p, q := encoded(t, roomed), encoded(t, roomed)
		spoil(p)
		if fmt.Sprint(memory) != before || !bytes.Equal(q, toldForm(r)) {
			t.Fatalf("%s: behind a form that was written over: %v", short(r), q)
		}
		handed, whole := roomy(q)
		first, _ := record.Decode(handed)
		second, _ := record.Decode(handed)
		spoilRecord(first)
		if !alike(second, r) || !bytes.Equal(whole, append(toldForm(r), "behind"...)) {
			t.Fatalf("%s: behind a record that was written over: %s", short(r), short(second))
		}
		spoil(second.Op.Key)
		if !bytes.Equal(second.Op.Value, r.Op.Value) {
			t.Fatalf("%s: the Value is %v when the Key is written over", short(r), second.Op.Value)
		}
		second, _ = record.Decode(handed)
		spoil(second.Op.Value)
		spoil(second.Copy)
		if !bytes.Equal(second.Op.Key, r.Op.Key) {
			t.Fatalf("%s: the Key is %v when the Value is written over", short(r), second.Op.Key)
		}
	}
}

// P16.7: nothing is kept: what was asked ahead of it changes no answer.
func TestNothingKept(t *testing.T) {
	all := severalRecords()
	for i, r := range all {
		for _, ahead := range []api.Record{all[(i+1)%len(all)], all[(i+7)%len(all)]} {
			record.Encode(ahead)
			record.Size(ahead)
			record.Decode(toldForm(ahead))
			wantAsTold(t, r)
			record.Sound(ahead)
			wantReadAsTold(t, toldForm(r))
		}
	}
}
