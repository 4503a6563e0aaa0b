package record_test

import (
	"bytes"
	"math/rand"
	"slices"
	"testing"

	"haulage/api"
	"haulage/record"
)

// encoded is an Encode that goes well.
func encoded(t *testing.T, r api.Record) []byte {
	t.Helper()
	p, err := record.Encode(r)
	if err != api.OK {
		t.Fatalf("Encode of %s: error %d", short(r), err)
	}
	return p
}

// manyRecords are the sound ones at the edges, and many at random.
func manyRecords() []api.Record {
	all := append(soundRecords(), fewRecords()...)
	dice := rand.New(rand.NewSource(4))
	for range 20000 {
		all = append(all, anySound(dice))
	}
	return append(all, install(1, 1, 1, text(maxCopy, 1)), install(1, 1, 1, text(maxCopy-1, 1)))
}

// P16.4: Decode of a form is the record; Encode of what Decode answers is what was decoded; unlike records have unlike forms.
func TestThereAndBack(t *testing.T) {
	seen := map[string]api.Record{}
	for _, r := range manyRecords() {
		p := encoded(t, r)
		back, err := record.Decode(p)
		if err != api.OK || !alike(back, r) {
			t.Fatalf("%s comes back as %s, error %d", short(r), short(back), err)
		}
		if again := encoded(t, back); !bytes.Equal(again, p) {
			t.Fatalf("%s: %v, then %v", short(r), p, again)
		}
		if twin, ok := seen[string(p)]; ok && !alike(twin, r) {
			t.Fatalf("one form: %s; %s", short(twin), short(r))
		}
		seen[string(p)] = r
	}
}

// P16.4: whatever Decode takes is what Encode lays down, and no two rows of bytes are one record.
func TestBackAndThere(t *testing.T) {
	letters := []byte{0, 1, 2, 3, 4, 5, 6, 8, 64, 128, 129}
	seen := map[string][]byte{}
	count := 0
	var grow func(p []byte, left int)
	grow = func(p []byte, left int) {
		if r, err := record.Decode(p); err == api.OK {
			count++
			if again := encoded(t, r); !bytes.Equal(again, p) {
				t.Fatalf("%v is read as %s, which is %v", p, short(r), again)
			}
			if twin, ok := seen[told(r)]; ok {
				t.Fatalf("%v and %v are both %s", twin, p, short(r))
			}
			seen[told(r)] = slices.Clone(p)
		}
		for _, b := range letters {
			if left > 0 {
				grow(append(p[:len(p):len(p)], b), left-1)
			}
		}
	}
	grow(nil, 4)
	grow([]byte{1, 0, 0, 1}, 5)
	grow([]byte{4, 1}, 5)
	if count < 1000 {
		t.Errorf("%d forms only", count)
	}
}

// P16.5: no form begins another one. (In the order of bytes one that begins others stands right ahead of such a one.)
func TestNoFormBeginsAnother(t *testing.T) {
	var forms [][]byte
	for _, r := range manyRecords() {
		forms = append(forms, encoded(t, r))
	}
	slices.SortFunc(forms, bytes.Compare)
	forms = slices.CompactFunc(forms, bytes.Equal)
	for i := 1; i < len(forms); i++ {
		if bytes.HasPrefix(forms[i], forms[i-1]) {
			t.Fatalf("%v begins %v", forms[i-1], forms[i])
		}
	}
}

// P16.5: a row of forms is cut apart in one way alone: of all beginnings of what is left just one is a form.
func TestCutApart(t *testing.T) {
	dice := rand.New(rand.NewSource(5))
	for range 100 {
		var all []api.Record
		var row []byte
		for range 1 + dice.Intn(8) {
			all = append(all, anySound(dice))
			row = append(row, encoded(t, all[len(all)-1])...)
		}
		for _, wanted := range all {
			cuts, size := 0, 0
			for n := 0; n <= len(row); n++ {
				r, err := record.Decode(row[:n])
				if err != api.OK {
					continue
				}
				cuts, size = cuts+1, n
				if !alike(r, wanted) {
					t.Fatalf("the first %d bytes of %v: %s; wanted %s", n, row, short(r), short(wanted))
				}
			}
			if cuts != 1 {
				t.Fatalf("%d ways to cut a form off %v", cuts, row)
			}
			row = row[size:]
		}
		if len(row) != 0 {
			t.Fatalf("left over: %v", row)
		}
	}
}

// P16.6: how long forms are at most; that each bound is met; and that Size says it.
func TestLengths(t *testing.T) {
	most := map[int]int{}
	for _, r := range append(manyRecords(), install(63, maxEpoch, 7, text(maxCopy, 1))) {
		p := encoded(t, r)
		if n, err := record.Size(r); n != len(p) || err != api.OK {
			t.Fatalf("Size of %s: %d, error %d; wanted %d", short(r), n, err, len(p))
		}
		more := len(p)
		if r.Kind == 4 {
			more -= len(r.Copy)
		}
		most[r.Kind] = max(most[r.Kind], more)
	}
	for kind, wanted := range map[int]int{1: 338, 2: 3, 3: 2, 4: 11, 5: 2, 6: 2, 7: 2, 8: 2} {
		if most[kind] != wanted {
			t.Errorf("kind %d: at most %d bytes; wanted %d", kind, most[kind], wanted)
		}
	}
}

// P16.6: the greatest of all by itself, and one whose every number is at its greatest.
func TestLongestForms(t *testing.T) {
	for _, c := range []struct {
		r    api.Record
		size int
	}{
		{write(63, 15, maxSeq, swap(text(maxKey, 1), text(maxValue, 1), maxRev)), 338},
		{write(63, 15, maxSeq, put(text(maxKey, 1), text(maxValue, 1))), 332},
		{write(63, 15, maxSeq, del(text(maxKey, 1))), 74},
		{install(63, maxEpoch, 7, text(maxCopy, 1)), maxCopy + 11},
		{install(63, maxEpoch, 7, ""), 9},
		{install(0, 1, 0, text(maxCopy, 1)), maxCopy + 7},
		{offer(63, 7), 3},
	} {
		n, err := record.Size(c.r)
		if p := encoded(t, c.r); n != c.size || err != api.OK || len(p) != c.size {
			t.Errorf("%s: Size %d, error %d, %d bytes; wanted %d", short(c.r), n, err, len(p), c.size)
		}
	}
}
