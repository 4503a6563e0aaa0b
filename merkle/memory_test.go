package merkle_test

import (
	"bytes"
	"slices"
	"testing"

	"haulage/api"
	"haulage/merkle"
)

// roomy is a list with room behind it, in which something stands.
func roomy(text string) []byte {
	return append([]byte(text), "the room behind it"...)[:len(text)]
}

// roomyRows are rows with room behind each list, and behind the list of them.
func roomyRows(rows ...api.Row) []api.Row {
	var all []api.Row
	for _, r := range rows {
		all = append(all, api.Row{Key: roomy(string(r.Key)), Value: roomy(string(r.Value)), Rev: r.Rev})
	}
	return append(all, api.Row{Key: roomy("behind"), Rev: 77})[:len(rows)]
}

// wantRoomy asks that rows of roomyRows are as they were, and the room too.
func wantRoomy(t *testing.T, what string, got []api.Row, wanted ...api.Row) {
	t.Helper()
	wantRows(t, what, got, wanted)
	for _, r := range got {
		for _, p := range [][]byte{r.Key, r.Value} {
			if string(p[len(p):len(p)+18]) != "the room behind it" {
				t.Fatalf("%s: the room behind %q was changed", what, p)
			}
		}
	}
	wantRow(t, what+": the room behind the rows", got[:len(got)+1][len(got)], row("behind", "", 77))
}

// fill writes over a list and the room behind it.
func fill(p []byte, b byte) {
	p = p[:cap(p)]
	for i := range p {
		p[i] = b
	}
}

// spoil writes over a list with what no test's list has.
func spoil(p []byte) { fill(p, 0xEE) }

// spoilRows writes over rows, their lists, and the room behind all of them.
func spoilRows(rows []api.Row) {
	rows = rows[:cap(rows)]
	for i := range rows {
		spoil(rows[i].Key)
		spoil(rows[i].Value)
		rows[i] = row("spoilt", "spoilt", -99)
	}
}

// P10.13: rows that are handed to New are neither changed nor kept.
func TestRowsHandedToNew(t *testing.T) {
	rows := rowsIn(3, 4)
	in := roomyRows(rows...)
	m := fresh(t, 64, in...)
	wantRoomy(t, "handed in", in, rows...)
	m.Put(api.Row{Key: rows[1].Key, Value: []byte("longer than it was"), Rev: 9})
	m.Delete(rows[0].Key)
	wantRoomy(t, "handed in", in, rows...)

	m = fresh(t, 64, in...)
	spoilRows(in)
	wantTree(t, "written over", m, 64, rows...)
}

// P10.13, P0.3: rows that New refuses are not changed either.
func TestRowsThatAreRefused(t *testing.T) {
	rows := []api.Row{row("b", "1", 1), row("a", "2", 2)}
	in := roomyRows(rows...)
	merkle.New(in, 64)
	merkle.New(in, 0)
	wantRoomy(t, "refused", in, rows...)
}

// P10.13: a row that is put, a new one and one in another's place, and keys that are asked for, are neither changed nor kept.
func TestRowHandedToPut(t *testing.T) {
	m := fresh(t, 64)
	for _, value := range []string{"first", "second", "", "a longer one"} {
		in := roomyRows(row("key", value, 5))
		m.Put(in[0])
		wantRoomy(t, "handed in", in, row("key", value, 5))
		spoilRows(in)
		wantTree(t, "written over", m, 64, row("key", value, 5))
	}
	key := roomy("key")
	m.Get(key)
	m.Prove(key)
	merkle.Check(m.Root(), 64, key, m.Prove(key))
	m.Delete(key)
	m.Delete(key)
	if string(key[:len(key)+18]) != "keythe room behind it" {
		t.Fatalf("the key was changed to %q", key[:len(key)+18])
	}
}

// P10.13: answers are new memory: who writes over them changes no tree, and no other answer.
func TestAnswersAreNew(t *testing.T) {
	rows := rowsIn(3, 4)
	m := fresh(t, 64, rows...)
	key := rows[2].Key
	for range 2 {
		one, _ := m.Get(key)
		spoil(one.Key)
		spoil(one.Value)
		all, again := m.Rows(), m.Rows()
		proof, other := m.Prove(key), m.Prove(key)
		spoilRows(all)
		spoilRows(proof.Rows)
		proof.Path = [8]uint64{}
		wantRows(t, "the other rows", again, rows)
		wantProof(t, "the other proof", other, tell(64, rows...).prove(key))
		wantTree(t, "the tree", m, 64, rows...)
	}
}

// P10.13: answers stay as they were, whatever becomes of the tree.
func TestAnswersStay(t *testing.T) {
	rows := rowsIn(3, 4)
	m := fresh(t, 64, rows...)
	one, _ := m.Get(rows[2].Key)
	all, proof := m.Rows(), m.Prove(rows[2].Key)
	root := m.Root()
	m.Put(api.Row{Key: rows[2].Key, Value: []byte("x"), Rev: 99})
	m.Delete(rows[0].Key)
	m.Put(rowsIn(3, 5)[4])
	wantRow(t, "Get", one, rows[2])
	wantRows(t, "Rows", all, rows)
	wantProof(t, "Prove", proof, tell(64, rows...).prove(rows[2].Key))
	wantShown(t, "the old proof", root, 64, proof, rows[2])
}

// apart asks that no two of these lists share memory, the room behind them neither.
func apart(t *testing.T, what string, lists ...[]byte) {
	t.Helper()
	for i, p := range lists {
		fill(p, byte(i+1))
	}
	for i, p := range lists {
		if !bytes.Equal(p[:cap(p)], bytes.Repeat([]byte{byte(i + 1)}, cap(p))) {
			t.Fatalf("%s: list %d shares memory with another one", what, i)
		}
	}
}

func listsOf(rows []api.Row) [][]byte {
	var lists [][]byte
	for _, r := range rows {
		lists = append(lists, r.Key, r.Value)
	}
	return lists
}

// P10.13, P0.4: no two lists of one answer share memory, nor does the room behind one.
func TestListsOfOneAnswer(t *testing.T) {
	rows := rowsIn(3, 6)
	m := fresh(t, 64, rows...)
	one, _ := m.Get(rows[0].Key)
	apart(t, "Get", one.Key, one.Value)
	apart(t, "Rows", listsOf(m.Rows())...)
	proof := m.Prove(rows[0].Key)
	shown, _, _ := merkle.Check(m.Root(), 64, rows[0].Key, proof)
	apart(t, "Check", append(listsOf(proof.Rows), shown.Key, shown.Value)...)
	lines, _, _ := merkle.Diff(m, fresh(t, 64))
	var keys [][]byte
	for _, l := range lines {
		keys = append(keys, l.Key)
	}
	apart(t, "Diff", keys...)
	wantTree(t, "the tree", m, 64, rows...)
}

// P10.13: a proof that is handed in is neither changed nor kept: the row that Check answers is not the proof's.
func TestProofHandedIn(t *testing.T) {
	rows := rowsIn(3, 3)
	m := fresh(t, 64, rows...)
	p := merkle.Proof{Rows: roomyRows(rows...), Path: m.Prove(rows[0].Key).Path}
	got, ok, err := merkle.Check(m.Root(), 64, rows[1].Key, p)
	wantErr(t, "Check", err, api.OK)
	wantBool(t, "Check", ok, true)
	wantRoomy(t, "handed in", p.Rows, rows...)
	spoilRows(p.Rows)
	wantRow(t, "Check", got, rows[1])

	turned := slices.Clone(rows)
	slices.Reverse(turned)
	in := roomyRows(turned...)
	wantRefused(t, "turned about", m.Root(), 64, string(rows[0].Key), merkle.Proof{Rows: in}, api.ErrMerkProof)
	wantRoomy(t, "refused", in, turned...)
}

// P10.13: the trees that Diff compares are not changed, and its lines are not theirs.
func TestTreesHandedToDiff(t *testing.T) {
	rows := rowsIn(3, 5)
	a, b := fresh(t, 64, rows[:3]...), fresh(t, 64, rows[2:]...)
	lines, _, _ := merkle.Diff(a, b)
	again, _, _ := merkle.Diff(a, b)
	for _, l := range lines {
		spoil(l.Key)
	}
	wantTree(t, "a", a, 64, rows[:3]...)
	wantTree(t, "b", b, 64, rows[2:]...)
	for i, l := range again {
		if want := []int{0, 1, 3, 4}[i]; !bytes.Equal(l.Key, rows[want].Key) {
			t.Fatalf("line %d is of %q", i, l.Key)
		}
	}
	a.Put(row("x", "", 1))
	b.Delete(rows[4].Key)
	wantNum(t, "lines", len(again), 4)
	if !bytes.Equal(again[3].Key, rows[4].Key) {
		t.Fatalf("a line was changed to %q", again[3].Key)
	}
}

// P10.13: trees of the same rows have nothing to do with one another.
func TestTwoTrees(t *testing.T) {
	rows := manyRows(50)
	a, b := fresh(t, 64, rows...), fresh(t, 64, rows...)
	a.Delete(rows[0].Key)
	a.Put(row("key00007", "x", 1))
	a.Put(row("new", "x", 1))
	wantTree(t, "the other", b, 64, rows...)
	c := fresh(t, 64, a.Rows()...)
	left := a.Rows()
	c.Delete(rows[9].Key)
	c.Put(row("key00007", "y", 2))
	wantTree(t, "the first", a, 64, left...)
}
