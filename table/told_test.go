package table_test

import (
	"math/rand"
	"slices"
	"testing"

	"haulage/api"
	"haulage/table"
)

// second is a second telling of a table, by the chapter's words: rows in a list, gone over from its beginning each time.
type second struct {
	rev  int
	rows []api.Row
}

// place is where the row of a key is; -1, if there is none.
func (s *second) place(key []byte) int {
	return slices.IndexFunc(s.rows, func(r api.Row) bool { return string(r.Key) == string(key) })
}

func (s *second) sort() {
	slices.SortFunc(s.rows, func(a, b api.Row) int {
		if ahead(string(a.Key), string(b.Key)) {
			return -1
		}
		return 1
	})
}

func (s *second) lay(op api.Op) {
	if i := s.place(op.Key); i >= 0 {
		s.rows = slices.Delete(s.rows, i, i+1)
	}
	s.rows = append(s.rows, row(string(op.Key), string(op.Value), s.rev))
	s.sort()
}

func (s *second) do(op api.Op) (api.Answer, api.Errno) {
	if !rightByWords(op) {
		return api.Answer{}, api.ErrTabOp
	}
	if op.Kind == api.OpSeek {
		i := slices.IndexFunc(s.rows, func(r api.Row) bool { return !ahead(string(r.Key), string(op.Key)) })
		return s.tell(i, i >= 0), api.OK
	}
	i := s.place(op.Key)
	if op.Kind == api.OpGet {
		return s.tell(i, i >= 0), api.OK
	}
	if s.rev == maxRev {
		return api.Answer{}, api.ErrTabEnd
	}
	s.rev++
	switch op.Kind {
	case api.OpPut:
		a := s.tell(i, true)
		s.lay(op)
		return a, api.OK
	case api.OpDelete:
		a := s.tell(i, i >= 0)
		if i >= 0 {
			s.rows = slices.Delete(s.rows, i, i+1)
		}
		return a, api.OK
	}
	a := s.tell(i, false)
	if a.Rev == op.Rev {
		a.Done = true
		s.lay(op)
	}
	return a, api.OK
}

func (s *second) tell(i int, done bool) api.Answer {
	a := api.Answer{Done: done, At: s.rev}
	if i >= 0 {
		r := s.rows[i]
		a.Key, a.Value, a.Rev = r.Key, r.Value, r.Rev
	}
	return a
}

// inLockstep does many ops on a table and on its second telling.
func inLockstep(t *testing.T, dice *rand.Rand, m *table.Table, s *second, keys []string, steps int) {
	t.Helper()
	for range steps {
		op := someOp(dice, keys, s.rev)
		n, why := m.After(op)
		wanted, err := s.do(op)
		got, other := m.Do(op)
		if err != other || err != why || told(got) != told(wanted) {
			t.Fatalf("Do(%v): %s %d, After %d; want %s %d", op, told(got), other, why, told(wanted), err)
		}
		wantTable(t, "behind an op", m, s.rev, s.rows...)
		if why == api.OK {
			wantNum(t, "After", n, m.Size())
		}
	}
}

// P13.3, P13.4, P13.7: many ops of few keys, in lockstep with a second telling, from a new table on.
func TestTwoTellings(t *testing.T) {
	for seed := range 12 {
		dice := rand.New(rand.NewSource(int64(seed)))
		keys := oddKeys()[:2+2*seed]
		inLockstep(t, dice, table.New(), &second{}, keys, 500)
	}
}

// P13.3, P13.7: the same from tables on that were read, near a revision whose Num grows, and near the end; the table is read anew now and then.
func TestTwoTellingsOfReadOnes(t *testing.T) {
	for i, rev := range []int{100, 16300, 1<<21 - 50, 1<<28 - 50, 1<<35 - 50, maxRev - 80} {
		dice := rand.New(rand.NewSource(int64(i)))
		s := &second{rev: rev, rows: []api.Row{row("\x00", "", rev), row("a", text(130, 1), 1), row("a\x00", "z", rev-1), row("\xff", "", 64)}}
		for range 10 {
			m := holding(t, s.rev, s.rows...)
			inLockstep(t, dice, m, s, oddKeys(), 30)
		}
	}
}
