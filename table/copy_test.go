package table_test

import (
	"fmt"
	"math/rand"
	"testing"

	"haulage/api"
	"haulage/table"
)

// P13.2: a copy has the same rows and revision; then each goes its own way.
func TestCopy(t *testing.T) {
	m := made(t, exampleOps()...)
	c := m.Copy()
	if c == m {
		t.Fatal("Copy: the table itself")
	}
	wantTable(t, "the copy", c, 8, row("a", "3", 5), row("b", "", 2))
	wantDo(t, c, put("a", "4"), yes("a", "3", 5, 9))
	wantDo(t, c, put("d", "x"), yes("", "", 0, 10))
	wantTable(t, "the first, behind the copy's writes", m, 8, row("a", "3", 5), row("b", "", 2))
	wantDo(t, m, del("a"), yes("a", "3", 5, 9))
	wantDo(t, m, swap("b", "z", 2), yes("b", "", 2, 10))
	wantTable(t, "the first", m, 10, row("b", "z", 10))
	wantTable(t, "the copy", c, 10, row("a", "4", 9), row("b", "", 2), row("d", "x", 10))
}

// P13.2: copies of a new table, of one that was read, of one at the end, and of a copy.
func TestCopiesOfOthers(t *testing.T) {
	m := table.New()
	c := m.Copy()
	did(t, m, put("a", "1"))
	wantTable(t, "the copy of a new one", c, 0)
	end := holding(t, maxRev, row("a", "1", 7)).Copy()
	wantTable(t, "the copy of one at the end", end, maxRev, row("a", "1", 7))
	wantRefused(t, end, put("a", "2"), api.ErrTabEnd)
	first := m.Copy().Copy()
	did(t, m, del("a"))
	wantTable(t, "the copy of a copy", first, 1, row("a", "1", 1))
}

// P13.2: many copies, of whatever time, of which each stays as it was, or goes on as one of its own would.
func TestManyCopies(t *testing.T) {
	dice := rand.New(rand.NewSource(132))
	m := table.New()
	type kept struct {
		copy *table.Table
		form []byte
		ops  []api.Op
	}
	var all []kept
	var ops []api.Op
	for range 1500 {
		op := someOp(dice, oddKeys(), m.Rev())
		if _, err := m.Do(op); err == api.OK {
			ops = append(ops, op)
		}
		if dice.Intn(20) == 0 {
			all = append(all, kept{m.Copy(), m.Bytes(), ops[:len(ops):len(ops)]})
		}
		if len(all) > 0 && dice.Intn(3) == 0 { // one of them goes on
			k := &all[dice.Intn(len(all))]
			if next := someOp(dice, oddKeys(), k.copy.Rev()); table.Right(next) {
				did(t, k.copy, next)
				k.ops, k.form = append(k.ops, next), k.copy.Bytes()
			}
		}
	}
	for i, k := range all {
		wantBytes(t, fmt.Sprint("copy ", i), k.copy.Bytes(), k.form)
		wantBytes(t, fmt.Sprint("copy ", i, ", made anew"), made(t, k.ops...).Bytes(), k.form)
	}
	wantBytes(t, "the first", m.Bytes(), made(t, ops...).Bytes())
}
