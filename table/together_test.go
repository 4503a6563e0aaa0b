package table_test

import (
	"fmt"
	"math/rand"
	"slices"
	"testing"

	"haulage/api"
	"haulage/table"
)

func isWrite(op api.Op) bool {
	return op.Kind == api.OpPut || op.Kind == api.OpDelete || op.Kind == api.OpSwap
}

// rightOps are so many right ops by dice.
func rightOps(dice *rand.Rand, keys []string, count int) []api.Op {
	var all []api.Op
	for len(all) < count {
		if op := someOp(dice, keys, len(all)); table.Right(op) {
			all = append(all, op)
		}
	}
	return all
}

// P13.6: whatever was done ahead of an op and behind it, its answer is that of the table which the first writes make.
func TestAnswersHaveTheirPlace(t *testing.T) {
	dice := rand.New(rand.NewSource(136))
	for range 8 {
		m := table.New()
		var writes []api.Op
		after := []*table.Table{table.New()} // what the first writes make, each made anew
		for _, op := range rightOps(dice, oddKeys()[:9], 120) {
			a := did(t, m, op)
			from := a.At
			if isWrite(op) {
				from--
				writes = append(writes, op)
				after = append(after, made(t, writes...))
			}
			wantNum(t, "writes so far", m.Rev(), len(writes))
			wantDo(t, after[from].Copy(), op, a)
		}
		for r, c := range after {
			wantNum(t, "Rev", c.Rev(), r)
			wantBytes(t, "the first writes once more", made(t, writes[:r]...).Bytes(), c.Bytes())
		}
	}
}

// P13.6: each op at each place gives the answer of that place, though others were asked in between.
func TestReadsAtEachPlace(t *testing.T) {
	dice := rand.New(rand.NewSource(1361))
	keys := oddKeys()[:7]
	alone, asked := table.New(), table.New()
	for _, op := range rightOps(dice, keys, 300) {
		for range dice.Intn(4) {
			key := keys[dice.Intn(len(keys))]
			did(t, asked, get(key))
			did(t, asked, seek(key))
			asked.After(put(key, "x"))
			asked.Do(put("", "x"))
		}
		wantDo(t, asked, op, did(t, alone, op))
	}
	wantBytes(t, "the tables", asked.Bytes(), alone.Bytes())
}

// P13.7: a table that is read answers everything as the one that was told.
func TestThereAndBack(t *testing.T) {
	dice := rand.New(rand.NewSource(137))
	m := table.New()
	for i, op := range rightOps(dice, oddKeys(), 400) {
		did(t, m, op)
		form := m.Bytes()
		other := read(t, form)
		wantBytes(t, "there and back", other.Bytes(), form)
		wantNum(t, "Size", other.Size(), len(form))
		if i%20 != 0 {
			continue
		}
		twin := m.Copy()
		for _, next := range rightOps(dice, oddKeys(), 60) {
			n, _ := twin.After(next)
			wantAfter(t, other, next, n)
			wantDo(t, other, next, did(t, twin, next))
		}
		wantBytes(t, "behind the same ops", other.Bytes(), twin.Bytes())
	}
}

// P13.8: what ops make of a new table is sound.
func TestWhatOpsMakeIsSound(t *testing.T) {
	dice := rand.New(rand.NewSource(138))
	for range 20 {
		m := table.New()
		for range 200 {
			m.Do(someOp(dice, oddKeys(), m.Rev()))
			if !isSound(uint64(m.Rev()), m.Rows()) || !isForm(m.Bytes()) {
				t.Fatalf("not sound: revision %d, %s", m.Rev(), toldRows(m.Rows()))
			}
		}
	}
}

// someSound is a sound table by dice: rows with keys out of these, and a revision that has room for them.
func someSound(dice *rand.Rand, keys []string) (int, []api.Row) {
	sorted := byBytes(keys)
	rev := len(keys) + dice.Intn(40)
	revs := dice.Perm(rev)
	var rows []api.Row
	for i, key := range sorted {
		if dice.Intn(3) > 0 {
			rows = append(rows, row(key, text(dice.Intn(257), i), revs[i]+1))
		}
	}
	return rev, rows
}

// P13.8: each sound table is what some ops make of a new one: of each revision, the Put of the row that has it, or a write that changes nothing.
func TestEachSoundTableCanBeMade(t *testing.T) {
	dice := rand.New(rand.NewSource(1381))
	for range 100 {
		rev, rows := someSound(dice, oddKeys())
		m := table.New()
		for at := 1; at <= rev; at++ {
			i := slices.IndexFunc(rows, func(r api.Row) bool { return r.Rev == at })
			switch {
			case i >= 0 && dice.Intn(2) == 0:
				did(t, m, put(string(rows[i].Key), string(rows[i].Value)))
			case i >= 0:
				did(t, m, swap(string(rows[i].Key), string(rows[i].Value), 0))
			case dice.Intn(2) == 0:
				did(t, m, del("never"))
			default:
				did(t, m, swap("never", "x", maxRev))
			}
		}
		wantTable(t, "made by ops", m, rev, rows...)
		wantTable(t, "read", holding(t, rev, rows...), rev, rows...)
	}
}

// memo is a row that a Get or a Seek told of, and how often that row had been changed then.
type memo struct {
	answer  api.Answer
	changes int
}

// P13.9: a Swap with a Rev that was told is Done just if no write since has changed the row or taken it away; with Rev 0 just if there is no row.
func TestSwapOfWhatWasTold(t *testing.T) {
	dice := rand.New(rand.NewSource(139))
	keys := oddKeys()[:6]
	hits, misses := 0, 0
	for range 10 {
		m := table.New()
		there := map[string]bool{}
		changes := map[string]int{}
		var memos []memo
		for _, op := range rightOps(dice, keys, 300) {
			key := string(op.Key)
			a := did(t, m, op)
			switch {
			case isWrite(op) && a.Done:
				there[key] = op.Kind != api.OpDelete
				changes[key]++
			case !isWrite(op) && a.Done:
				memos = append(memos, memo{a, changes[string(a.Key)]})
			}
			for _, k := range memos[max(0, len(memos)-15):] {
				key := string(k.answer.Key)
				done := changes[key] == k.changes
				wantBool(t, fmt.Sprintf("Swap of %q with Rev %d", key, k.answer.Rev), did(t, m.Copy(), swap(key, "new", k.answer.Rev)).Done, done)
				if done {
					hits++
				} else {
					misses++
				}
			}
			for _, key := range keys {
				wantBool(t, fmt.Sprintf("Swap of %q with Rev 0", key), did(t, m.Copy(), swap(key, "new", 0)).Done, !there[key])
			}
		}
	}
	if hits < 100 || misses < 100 {
		t.Fatalf("%d hits, %d misses: too few of one kind", hits, misses)
	}
}

// P13.10: Seek of no bytes, then each time of the key that was answered with a byte 0 behind it.
func TestOneBehindTheOther(t *testing.T) {
	dice := rand.New(rand.NewSource(1310))
	for range 50 {
		rev, rows := someSound(dice, oddKeys())
		m := holding(t, rev, rows...)
		var walked []api.Row
		from := ""
		for {
			a := did(t, m, seek(from))
			if !a.Done {
				break
			}
			walked = append(walked, api.Row{Key: a.Key, Value: a.Value, Rev: a.Rev})
			from = string(a.Key) + "\x00"
		}
		if toldRows(walked) != toldRows(rows) || toldRows(walked) != toldRows(m.Rows()) {
			t.Fatalf("one behind the other: %s, want %s", toldRows(walked), toldRows(rows))
		}
	}
}

// P13.10: keys that differ in bytes 0 behind them alone are all walked over, at the greatest length too.
func TestWalkOverZeros(t *testing.T) {
	m := table.New()
	for n := maxKey; n >= 1; n-- {
		did(t, m, put(string(make([]byte, n)), ""))
	}
	from := ""
	for n := 1; n <= maxKey; n++ {
		wantDo(t, m, seek(from), yes(string(make([]byte, n)), "", maxKey+1-n, maxKey))
		from = string(make([]byte, n)) + "\x00"
	}
	wantDo(t, m, seek(from), no("", "", 0, maxKey))
}
