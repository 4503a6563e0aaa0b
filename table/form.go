package table

import (
	"math/bits"

	"haulage/api"
	"haulage/parcel"
)

// Read: P13.2.
func Read(p []byte) (*Table, api.Errno) {
	r := parcel.Read(p)
	rev, count := r.Num(), r.Num()
	if rev > api.MaxRev {
		return nil, api.ErrTabForm
	}
	t := &Table{rev: int(rev)}
	if !t.takeRows(r, count) || r.Done() != api.OK {
		return nil, api.ErrTabForm
	}
	return t, api.OK
}

// takeRows takes up so many sound rows, and says whether they were there. A reader with a fault answers zeros, which no sound row is made of: so a count that no bytes hold ends it too.
func (t *Table) takeRows(r *parcel.Reader, count uint64) bool {
	last := ""
	seen := map[uint64]struct{}{}
	for range count {
		key, value, rev := string(r.Text(api.MaxKey)), string(r.Text(api.MaxValue)), r.Num()
		if key <= last || rev < 1 || rev > uint64(t.rev) { // no key at all is not above another one either
			return false
		}
		if _, twice := seen[rev]; twice {
			return false
		}
		seen[rev] = struct{}{}
		t.put(key, cell{value, int(rev)})
		last = key
	}
	return true
}

// Bytes: P13.4.
func (t *Table) Bytes() []byte {
	if t == nil {
		return nil
	}
	w := parcel.New(t.Size())
	w.Num(uint64(t.rev))
	w.Num(uint64(t.Len()))
	for key, c := range t.rows.All() {
		w.Text([]byte(key))
		w.Text([]byte(c.value))
		w.Num(uint64(c.rev))
	}
	p, _ := w.Done()
	return p
}

// Size: P13.4.
func (t *Table) Size() int {
	if t == nil {
		return 0
	}
	return sizeOfNum(t.rev) + sizeOfNum(t.Len()) + t.body
}

func sizeOfRow(key string, c cell) int {
	return sizeOfText(key) + sizeOfText(c.value) + sizeOfNum(c.rev)
}

func sizeOfText(text string) int { return sizeOfNum(len(text)) + len(text) }

// sizeOfNum is how many bytes the form of a number has: one for each seven bits, but one at least.
func sizeOfNum(n int) int { return (bits.Len64(uint64(n)|1) + 6) / 7 }
