package table_test

import (
	"fmt"
	"slices"
	"strings"
	"testing"

	"haulage/api"
	"haulage/table"
)

// P13.2: a new table.
func TestNew(t *testing.T) {
	m := table.New()
	wantTable(t, "a new table", m, 0)
	for _, op := range []api.Op{get("a"), seek(""), seek("a"), seek(strings.Repeat("\xff", 65))} {
		wantDo(t, m, op, no("", "", 0, 0))
	}
	wantDo(t, table.New(), put("a", "1"), yes("", "", 0, 1))
	wantTable(t, "another new one knows nothing of it", m, 0)
}

// P13.3: a Put of a new key, and over a row, at each length of the old and the new value.
func TestPut(t *testing.T) {
	lengths := []int{0, 1, 127, 128, 255, 256}
	for _, k := range []int{1, 2, 63, 64} {
		key := text(k, 7)
		for _, old := range lengths {
			for _, now := range lengths {
				m := made(t, put("\x01", "x"), put("\xff", "y"))
				wantDo(t, m, put(key, text(old, 1)), yes("", "", 0, 3))
				wantDo(t, m, put(key, text(now, 2)), yes(key, text(old, 1), 3, 4))
				wantTable(t, "behind two Puts", m, 4, row("\x01", "x", 1), row(key, text(now, 2), 4), row("\xff", "y", 2))
			}
		}
	}
}

// P13.3: a Put of what stands there already has a new revision all the same.
func TestPutOfTheSame(t *testing.T) {
	m := made(t, put("a", "1"))
	wantDo(t, m, put("a", "1"), yes("a", "1", 1, 2))
	wantDo(t, m, put("a", "1"), yes("a", "1", 2, 3))
	wantTable(t, "three times the same", m, 3, row("a", "1", 3))
}

// P13.3: a row whose value has no bytes is a row.
func TestEmptyValueIsARow(t *testing.T) {
	m := table.New()
	wantDo(t, m, put("a", ""), yes("", "", 0, 1))
	wantDo(t, m, get("a"), yes("a", "", 1, 1))
	wantDo(t, m, swap("a", "", 0), no("a", "", 1, 2))
	wantDo(t, m, swap("a", "", 1), yes("a", "", 1, 3))
	wantDo(t, m, seek("a"), yes("a", "", 3, 3))
	wantDo(t, m, del("a"), yes("a", "", 3, 4))
	wantTable(t, "behind it", m, 4)
}

// P13.3: Delete of each row, and of keys that are beside rows.
func TestDelete(t *testing.T) {
	keys := byBytes(oddKeys())
	for i, key := range keys {
		m := table.New()
		var rows []api.Row
		for j, k := range keys {
			did(t, m, put(k, text(j, 1)))
			rows = append(rows, row(k, text(j, 1), j+1))
		}
		wantDo(t, m, del(key), yes(key, text(i, 1), i+1, len(keys)+1))
		rows = slices.Delete(rows, i, i+1)
		wantTable(t, fmt.Sprintf("behind Delete(%q)", key), m, len(keys)+1, rows...)
		wantDo(t, m, del(key), no("", "", 0, len(keys)+2))
		wantDo(t, m, get(key), no("", "", 0, len(keys)+2))
		wantTable(t, fmt.Sprintf("behind Delete(%q), twice", key), m, len(keys)+2, rows...)
	}
}

// P13.3: a failed Swap and a Delete of nothing have a revision, which no row has.
func TestWritesThatChangeNothing(t *testing.T) {
	m := made(t, put("a", "1"))
	wantDo(t, m, del("b"), no("", "", 0, 2))
	wantDo(t, m, swap("a", "2", 0), no("a", "1", 1, 3))
	wantDo(t, m, swap("a", "2", 2), no("a", "1", 1, 4))
	wantDo(t, m, swap("a", "2", maxRev), no("a", "1", 1, 5))
	wantDo(t, m, swap("b", "2", 1), no("", "", 0, 6))
	wantDo(t, m, swap("b", "2", maxRev), no("", "", 0, 7))
	wantTable(t, "behind them", m, 7, row("a", "1", 1))
	wantDo(t, m, put("b", "2"), yes("", "", 0, 8))
	wantTable(t, "behind a Put", m, 8, row("a", "1", 1), row("b", "2", 8))
}

// P13.3: reads change nothing, the revision neither.
func TestReadsChangeNothing(t *testing.T) {
	m := made(t, exampleOps()...)
	for _, key := range []string{"a", "b", "c", "\x00", "\xff", text(64, 3)} {
		for _, op := range []api.Op{get(key), seek(key), seek(key[:1] + "\x00"), seek("")} {
			wantNum(t, fmt.Sprintf("At of %v", op), did(t, m, op).At, 8)
			wantTable(t, fmt.Sprintf("behind %v", op), m, 8, row("a", "3", 5), row("b", "", 2))
		}
	}
}

// P13.3: Get of each row, and of keys that no row has: those that begin a row's key, and those that a row's key begins.
func TestGet(t *testing.T) {
	keys := oddKeys()
	m := table.New()
	for i, key := range keys {
		did(t, m, put(key, text(i*10, i)))
	}
	for i, key := range keys {
		wantDo(t, m, get(key), yes(key, text(i*10, i), i+1, len(keys)))
	}
	for _, key := range []string{"\x01", "ba", "b\x00", "aaa", "a\x01", "A", "\x81", "\xfe", text(62, 1), strings.Repeat("\xff", 62), strings.Repeat("\x00", 63)} {
		wantDo(t, m, get(key), no("", "", 0, len(keys)))
	}
}

// P13.3: the order of keys: byte by byte, the lesser first, a key that begins another ahead of it; in whatever order they came.
func TestOrderOfKeys(t *testing.T) {
	keys := oddKeys()
	sorted := byBytes(keys)
	for turn := range len(keys) {
		m := table.New()
		revs := map[string]int{}
		for i := range keys {
			key := keys[(i*7+turn)%len(keys)]
			did(t, m, put(key, key))
			revs[key] = i + 1
		}
		var rows []api.Row
		for _, key := range sorted {
			rows = append(rows, row(key, key, revs[key]))
		}
		wantTable(t, "all keys", m, len(keys), rows...)
	}
}

// P13.3: Seek of no bytes, of each key, just behind each, just ahead of each, and behind the last.
func TestSeek(t *testing.T) {
	keys := byBytes(oddKeys())
	m := table.New()
	for i, key := range keys {
		did(t, m, put(key, text(i, i)))
	}
	firstFrom := func(from string) api.Answer {
		for i, key := range keys {
			if !ahead(key, from) {
				return yes(key, text(i, i), i+1, len(keys))
			}
		}
		return no("", "", 0, len(keys))
	}
	for _, key := range append(keys, "m", "\x01", "\xfe\xff", text(60, 1)) {
		wantDo(t, m, seek(key), firstFrom(key))
		wantDo(t, m, seek(key+"\x00"), firstFrom(key+"\x00"))
		wantDo(t, m, seek(key[:len(key)-1]), firstFrom(key[:len(key)-1]))
		if len(key) < maxKey {
			wantDo(t, m, seek(key+"\xff"), firstFrom(key+"\xff"))
		}
	}
	wantDo(t, m, seek(""), yes("\x00", text(0, 0), 1, len(keys)))
	wantDo(t, m, seek(strings.Repeat("\xff", 64)), yes(strings.Repeat("\xff", 64), text(len(keys)-1, len(keys)-1), len(keys), len(keys)))
	wantDo(t, m, seek(strings.Repeat("\xff", 65)), no("", "", 0, len(keys)))
	wantRefused(t, m, seek(strings.Repeat("\xff", 66)), api.ErrTabOp)
}

// P13.3: a Swap at each Rev that a row might have.
func TestSwap(t *testing.T) {
	for there := range 5 {
		for rev := range 8 {
			m := made(t, del("x"), put("b", "2"), put("a", "0"), put("c", "3"))
			rows := []api.Row{row("b", "2", 2), row("c", "3", 4)}
			was, found := api.Row{}, there > 0
			if found { // a row of Rev 4 + there
				for range there {
					did(t, m, put("a", "1"))
				}
				was = row("a", "1", 4+there)
			} else {
				did(t, m, del("a"))
			}
			at := m.Rev() + 1
			wanted := api.Answer{Done: was.Rev == rev, Key: was.Key, Value: was.Value, Rev: was.Rev, At: at}
			wantDo(t, m, swap("a", "9", rev), wanted)
			switch {
			case wanted.Done:
				rows = slices.Insert(rows, 0, row("a", "9", at))
			case found:
				rows = slices.Insert(rows, 0, was)
			}
			wantTable(t, fmt.Sprintf("Swap with Rev %d of a row of Rev %d", rev, was.Rev), m, at, rows...)
		}
	}
}

// P13.3, P13.9: a Swap with Rev 0 where a row came and went, and with the Rev of the row that went.
func TestSwapWhereARowWent(t *testing.T) {
	m := made(t, put("a", "1"), del("a"))
	wantDo(t, m, swap("a", "2", 1), no("", "", 0, 3))
	wantDo(t, m, swap("a", "2", 2), no("", "", 0, 4))
	wantDo(t, m, swap("a", "2", 0), yes("", "", 0, 5))
	wantDo(t, m, swap("a", "3", 0), no("a", "2", 5, 6))
	wantDo(t, m, swap("a", "3", 1), no("a", "2", 5, 7))
	wantTable(t, "behind it", m, 7, row("a", "2", 5))
}

// P13.3: the highest Rev that a Swap may have is held against rows like any other.
func TestSwapOfAHighRev(t *testing.T) {
	for _, rev := range []int{1 << 32, 1<<32 + 1, maxRev - 1} {
		m := holding(t, maxRev-1, row("a", "1", rev), row("b", "1", 1))
		wantDo(t, m.Copy(), swap("a", "2", rev-1), no("a", "1", rev, maxRev))
		wantDo(t, m.Copy(), swap("a", "2", maxRev), no("a", "1", rev, maxRev))
		wantDo(t, m.Copy(), swap("b", "2", 1<<32+1), no("b", "1", 1, maxRev))
		wantDo(t, m, swap("a", "2", rev), yes("a", "1", rev, maxRev))
		wantTable(t, "behind it", m, maxRev, row("a", "2", maxRev), row("b", "1", 1))
	}
	m := holding(t, maxRev, row("a", "1", maxRev))
	wantRefused(t, m, swap("a", "2", maxRev), api.ErrTabEnd)
}
