package shard_test

import (
	"fmt"
	"testing"

	"haulage/api"
	"haulage/shard"
)

// wantSizes holds Size and After against Export, for an op and its Do; After is asked of the shard itself, Do is done on a copy.
func wantSizes(t *testing.T, what string, s *shard.Shard, client, seq int, op api.Op) {
	t.Helper()
	before := s.Export()
	wantNum(t, what+": Size", s.Size(), len(before))
	n, err := s.After(client, seq, op)
	wantErr(t, what+": After", err, api.OK)
	wantBytes(t, what+": the shard behind After", s.Export(), before)
	wantNum(t, what+": Size behind After", s.Size(), len(before))
	c := s.Copy()
	_, _, err = c.Do(client, seq, op)
	wantErr(t, what+": Do", err, api.OK)
	wantNum(t, what+": After and Export", n, len(c.Export()))
	wantNum(t, what+": After and Size", n, c.Size())
}

// P14.3, P14.9: at each revision whose Num grows by a byte, and beside it: it stands in the table, in its rows, and in the seats.
func TestSizeAsRevisionsGrow(t *testing.T) {
	for bits := 7; bits <= 35; bits += 7 {
		for rev := 1<<bits - 3; rev < 1<<bits+3; rev++ {
			m := tell(rev, row("a", "12", 1), row("b", "", rev-2)).with(seat(3, 5, yes("b", "x", rev-3, rev)), seat(4, 5, no("", "", 0, rev-1)))
			s := shardOf(t, m)
			wantNum(t, "Size", s.Size(), len(m.form()))
			for i, op := range append(oneOfEach("a"), oneOfEach("b")...) {
				for _, client := range []int{3, 4, 5} {
					wantSizes(t, fmt.Sprintf("revision %d, op %d", rev, i), s, client, 6, op)
				}
			}
		}
	}
}

// P14.3, P14.9: at each seq whose Num grows by a byte, and beside it; said anew, and said again.
func TestSizeAsSeqsGrow(t *testing.T) {
	for bits := 7; bits <= 28; bits += 7 {
		for seq := 1<<bits - 2; seq < 1<<bits+2; seq++ {
			m := tell(9, row("a", "1", 1)).with(seat(3, seq, yes("", "", 0, 4)))
			s := shardOf(t, m)
			n := bits / 7
			if seq >= 1<<bits {
				n++
			}
			wantNum(t, "Size", s.Size(), 1+7+1+1+n+1+1+1+1+1)
			for _, op := range oneOfEach("a") {
				for more := range 4 {
					wantSizes(t, fmt.Sprintf("seq %d and %d", seq, more), s, 3, seq+more, op)
				}
				wantSizes(t, fmt.Sprintf("another's seq %d", seq), s, 4, seq, op)
			}
		}
	}
}

// P14.3, P14.9: at each length of a value whose Num grows by a byte: it stands in the row, and then in the seat.
func TestSizeAsLengthsGrow(t *testing.T) {
	for _, n := range []int{0, 1, 2, 126, 127, 128, 129, 255, 256} {
		for _, old := range []int{0, 1, 126, 127, 128, 256} {
			m := tell(2, row("a", text(old, 1), 1)).with(seat(3, 1, no("b", text(n, 3), 1, 2)))
			s := shardOf(t, m)
			for _, op := range []api.Op{put("a", text(n, 2)), put("c", text(n, 2)), swap("a", text(n, 2), 1), swap("a", text(n, 2), 0), del("a"), del("c")} {
				for _, client := range []int{3, 4} {
					wantSizes(t, fmt.Sprintf("a value of %d in the place of %d", n, old), s, client, 2, op)
				}
			}
		}
	}
	for n := 1; n <= maxKey; n++ {
		m := tell(2, row(text(n, 1), "1", 1))
		s := shardOf(t, m)
		for _, op := range []api.Op{put(text(n, 1), ""), put(text(n, 2), "1"), del(text(n, 1)), del(text(n, 2))} {
			wantSizes(t, fmt.Sprintf("a key of %d", n), s, 3, 1, op)
		}
	}
}

// P14.3, P14.9: at each length of the table's form whose Num grows by a byte, and beside it.
func TestSizeAsTheTableGrows(t *testing.T) {
	for _, bits := range []int{7, 14} {
		for n := 1<<bits - 12; n < 1<<bits+12; n++ {
			rows := []api.Row{row("a", "", 5000)}
			for i := 0; len(tableForm(6000, rows...)) < n-200; i++ {
				rows = append(rows, row(fmt.Sprintf("k%03d", i), text(120, i), 1000+i))
			}
			left := n - len(tableForm(6000, rows...))
			for value := range left {
				if long := append(rows, row("z", text(value, 1), 5001)); len(tableForm(6000, long...)) == n {
					rows = long
					break
				}
			}
			wantNum(t, "the table's form", len(tableForm(6000, rows...)), n)
			s := shardOf(t, tell(6000, rows...))
			wantNum(t, "Size", s.Size(), n+len(appendNum(nil, n))+1)
			for _, op := range []api.Op{put("b", ""), put("b", "1"), put("a", "12"), put("z", ""), del("a"), del("z"), del("x"), swap("a", "1234", 5000), get("a")} {
				wantSizes(t, fmt.Sprintf("a table of %d bytes", n), s, 3, 1, op)
			}
		}
	}
}

// P14.3: After changes nothing, however often it is asked, and a Do behind it is as if it had not been.
func TestAfterChangesNothing(t *testing.T) {
	for _, op := range append(oneOfEach("a"), oneOfEach("none")...) {
		for _, seq := range []int{5, 6} {
			m := seated(2)
			s := shardOf(t, m)
			for range 3 {
				s.After(2, seq, op)
				s.After(3, 50, op)
			}
			wantShard(t, "behind After", s, m)
			wantAsTold(t, "behind After", s, &m, 2, seq, op)
			wantShard(t, "behind Do", s, m)
		}
	}
}
