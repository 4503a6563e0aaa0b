package state_test

import (
	"fmt"
	"testing"

	"haulage/api"
	"haulage/shard"
)

// newCopy is the form of a new shard.
func newCopy() []byte { return []byte{2, 0, 0, 0} }

// copyOf is the form of a shard on which so many puts were done, with a seat of each of the first three clients.
func copyOf(puts int) []byte {
	s := shard.New()
	for i := range puts {
		s.Do(i%3, 1+i, put(fmt.Sprint("k", i%5), text(i%7, i)))
	}
	return s.Export()
}

// rowForm are a row's pieces.
func rowForm(key, value string, rev int) []byte {
	return appendNum(appendText(appendText(nil, []byte(key)), []byte(value)), rev)
}

// copyAt is the form of a shard at this revision that has done one write of client 3, with the seq 5, and rows with these pieces.
func copyAt(rev int, rows ...[]byte) []byte {
	table := appendNum(appendNum(nil, rev), len(rows))
	for _, r := range rows {
		table = append(table, r...)
	}
	p := append(appendText(nil, table), 1, 3, 5, 1, 0, 0, 0)
	return appendNum(p, rev)
}

// copyOfSize is the form of a shard like copyAt's that has just so many bytes: some thousands at least.
func copyOfSize(size, rev int) []byte {
	var rows [][]byte
	value := text(maxValue, 1)
	for i := range (size - 900) / len(rowForm("~0000", value, 1000)) {
		rows = append(rows, rowForm(fmt.Sprintf("~%04d", i), value, 1000+i))
	}
	left := size - len(copyAt(rev, rows...)) // no number's form grows any more by a few rows
	for i, cost := range []int{left / 5, left / 5, left / 5, left / 5, left - left/5*4} {
		rows = append(rows, rowOfSize(i, cost))
	}
	return copyAt(rev, rows...)
}

// rowOfSize are the pieces of a row behind those of copyOfSize that have just so many bytes; the key helps out where a value's length grows by a byte.
func rowOfSize(i, size int) []byte {
	for value := range maxValue + 1 {
		for _, more := range []string{"", "+"} {
			if p := rowForm(fmt.Sprintf("~~%d", i)+more, text(value, i), 9000+i); len(p) == size {
				return p
			}
		}
	}
	panic("no such row")
}

// TestSamples: the copies that other tests hand in are what they are taken for, and so are the homes.
func TestSamples(t *testing.T) {
	for _, size := range []int{16380, maxCopy - 1, maxCopy} {
		for _, rev := range []int{10000, maxRev} {
			p := copyOfSize(size, rev)
			_, err := shard.Import(p)
			wantErr(t, "a great copy", err, api.OK)
			wantNum(t, "its size", len(p), size)
		}
	}
	wantNum(t, "one too great", len(copyOfSize(maxCopy+1, 10000)), maxCopy+1)
	for puts := range 40 {
		_, err := shard.Import(copyOf(puts))
		wantErr(t, "a copy", err, api.OK)
	}
	for i, home := range []int{0, 0, 1, 1, 1, 0} {
		if l := begun(home, 3, 6).ledgers[i]; l != owned(0, home) {
			t.Fatalf("shard %d is %v at its home %d", i, l, home)
		}
	}
}

// wrongCopies are bytes that are no shard's form.
func wrongCopies() [][]byte {
	good := copyOf(4)
	return [][]byte{
		nil, {}, {0}, {0, 0}, {1}, {2, 0, 0}, {2, 0, 0, 0, 0}, {2, 0, 0, 1}, {2, 0, 1, 0}, {130, 0, 0, 0, 0}, {255, 255, 255},
		good[1:], good[:len(good)-1], append(copyOf(4), 0), append(copyOf(4), newCopy()...),
		copyAt(maxRev + 1), copyAt(8, rowForm("a", "", 9)), copyAt(8, rowForm("", "", 3)), copyAt(8, rowForm("b", "", 1), rowForm("a", "", 2)), copyAt(0),
		copyOfSize(maxCopy+1, 10000), make([]byte, maxCopy),
	}
}

// mixed is a state of server 1 out of 3 that has a shard in each phase: 0 Absent, 1 Offered, 2 Owned from the beginning on, 3 Committed, 4 Installed, 5 Released, 6 Owned later on.
func mixed() telling {
	m := begun(1, 3, 7)
	m = m.with(1, offered(3, 2), copyOf(5)).with(2, owned(0, 1), copyOf(9)).with(3, committed(7, 0), copyOf(1))
	return m.with(4, installed(200, 0), copyOf(12)).with(5, released(70000, 2), nil).with(6, owned(maxEpoch, 1), copyOf(3))
}

// someStates are sound states of many kinds, none of them very long.
func someStates() map[string]telling {
	return map[string]telling{
		"one server, one shard":      begun(0, 1, 1),
		"one server, two shards":     begun(0, 1, 2).with(1, owned(0, 0), copyOf(3)),
		"the last of eight":          begun(7, 8, 9),
		"all phases":                 mixed(),
		"nothing is there":           begun(2, 3, 2),
		"all is gone":                begun(1, 3, 3).with(0, released(1, 2), nil).with(1, released(2, 0), nil).with(2, released(3, 2), nil),
		"all has come":               begun(1, 3, 3).with(0, installed(1, 0), newCopy()).with(1, installed(2, 2), copyOf(2)).with(2, owned(9, 1), copyOf(1)),
		"the greatest epochs":        begun(3, 4, 5).with(0, offered(maxEpoch-1, 0), newCopy()).with(1, committed(maxEpoch, 1), newCopy()).with(2, installed(maxEpoch, 2), newCopy()).with(3, released(maxEpoch, 0), nil).with(4, owned(maxEpoch, 3), newCopy()),
		"the greatest revision":      begun(0, 2, 1).with(0, owned(2, 0), copyAt(maxRev, rowForm("a", "1", maxRev))),
		"the most shards":            begun(0, 1, 64),
		"the most shards, elsewhere": begun(5, 6, 64),
	}
}
