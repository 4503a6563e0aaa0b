package table_test

import (
	"slices"
	"testing"

	"haulage/api"
	"haulage/table"
)

// spoil writes one byte over a list, and over the room behind it.
func spoil(p []byte) {
	p = p[:cap(p)]
	for i := range p {
		p[i] = 0xEE
	}
}

// roomy is a list with room behind it, and all of that memory.
func roomy(s string) (list, all []byte) {
	all = append([]byte(s), "behind"...)
	return all[:len(s)], all
}

// P13.11, P0.4: an op's Key and Value are neither changed nor kept, the room behind them neither.
func TestOpsHandedIn(t *testing.T) {
	for _, kind := range []int{api.OpPut, api.OpSwap} {
		for _, n := range []int{0, 1, 30, 256} {
			m := made(t, put("a", "0"), put("c", "1"))
			key, allKey := roomy("b")
			value, allValue := roomy(text(n, 1))
			op := api.Op{Kind: kind, Key: key, Value: value}
			m.After(op)
			did(t, m, op)
			wantBytes(t, "the key's memory", allKey, []byte("bbehind"))
			wantBytes(t, "the value's memory", allValue, []byte(text(n, 1)+"behind"))
			spoil(key)
			spoil(value)
			wantTable(t, "behind it", m, 3, row("a", "0", 1), row("b", text(n, 1), 3), row("c", "1", 2))
			wantDo(t, m, get("b"), yes("b", text(n, 1), 3, 3))
		}
	}
	for _, kind := range []int{api.OpGet, api.OpSeek, api.OpDelete} {
		m := made(t, put("a", "0"), put("b", "1"))
		key, all := roomy("b")
		op := api.Op{Kind: kind, Key: key}
		m.After(op)
		a := did(t, m, op)
		wantBytes(t, "the key's memory", all, []byte("bbehind"))
		spoil(key)
		wantBytes(t, "the answer's key", a.Key, []byte("b"))
		wantDo(t, m, seek(""), yes("a", "0", 1, a.At))
	}
}

// P13.11: a key that is put over a row's key does not come into the table by it.
func TestKeyPutAgain(t *testing.T) {
	m := table.New()
	for range 3 {
		key := []byte("key")
		did(t, m, api.Op{Kind: api.OpPut, Key: key, Value: []byte("v")})
		did(t, m, api.Op{Kind: api.OpSwap, Key: key, Value: []byte("v"), Rev: m.Rev()})
		spoil(key)
	}
	wantTable(t, "behind it", m, 6, row("key", "v", 6))
}

// P13.11, P0.4: ops that are refused are not changed either.
func TestRefusedOpsHandedIn(t *testing.T) {
	for _, m := range []*table.Table{nil, table.New(), holding(t, maxRev)} {
		key, allKey := roomy("")
		value, allValue := roomy(text(300, 1))
		for kind := range 7 {
			m.Do(api.Op{Kind: kind, Key: key, Value: value, Rev: -1})
			m.After(api.Op{Kind: kind, Key: key, Value: value, Rev: -1})
			table.Right(api.Op{Kind: kind, Key: key, Value: value, Rev: -1})
		}
		wantBytes(t, "the key's memory", allKey, []byte("behind"))
		wantBytes(t, "the value's memory", allValue, []byte(text(300, 1)+"behind"))
	}
}

// P13.11, P0.4: the bytes that are read are neither changed nor kept.
func TestBytesHandedIn(t *testing.T) {
	rev, rows := manyRows()
	form := formOf(uint64(rev), rows...)
	p, all := roomy(string(form))
	m := read(t, p)
	wantBytes(t, "the memory", all, append(slices.Clone(form), "behind"...))
	spoil(p)
	wantTable(t, "behind it", m, rev, rows...)
	for i, r := range rows {
		wantDo(t, m, get(string(r.Key)), yes(string(rows[i].Key), string(rows[i].Value), rows[i].Rev, rev))
	}
	wrong, all := roomy(string(form[:len(form)-1]))
	wantNotRead(t, "cut off", wrong)
	wantBytes(t, "the memory of what was refused", all, append(slices.Clone(form[:len(form)-1]), "behind"...))
}

// P13.11: what Do answers is new memory: each Key and Value, the room behind them too; the copy knows nothing of it either.
func TestAnswersAreNew(t *testing.T) {
	for _, op := range []api.Op{get("b"), seek("aa"), put("b", "new"), del("b"), swap("b", "new", 2), swap("b", "new", 1)} {
		for _, n := range []int{0, 1, 31, 33, 256} {
			m := made(t, put("a", "0"), put("b", text(n, 1)), put("c", "1"))
			c := m.Copy()
			a, twin := did(t, m, op), did(t, c.Copy(), op)
			behind := m.Bytes()
			spoil(a.Key)
			spoil(a.Value)
			wantBytes(t, "Key of another answer", twin.Key, []byte("b"))
			wantBytes(t, "Value of another answer", twin.Value, []byte(text(n, 1)))
			wantBytes(t, "the table", m.Bytes(), behind)
			wantTable(t, "the copy", c, 3, row("a", "0", 1), row("b", text(n, 1), 2), row("c", "1", 3))
		}
	}
}

// P13.11, P0.4: no two lists of one answer share any memory.
func TestListsOfOneAnswer(t *testing.T) {
	m := made(t, put("ab", "ab"), put("abc", "abc"), put("b", ""))
	for _, op := range []api.Op{get("ab"), seek("ab"), get("b"), put("ab", "ab")} {
		a := did(t, m, op)
		value := slices.Clone(a.Value)
		spoil(a.Key)
		wantBytes(t, "Value beside a spoilt Key", a.Value, value)
		b := did(t, m, get("abc"))
		spoil(b.Value)
		wantBytes(t, "Key beside a spoilt Value", b.Key, []byte("abc"))
	}
	rows := m.Rows()
	for i := range rows {
		others := m.Rows()
		spoil(rows[i].Key)
		for j := i + 1; j < len(rows); j++ {
			wantBytes(t, "Key of another row", rows[j].Key, others[j].Key)
		}
		wantBytes(t, "Value of that row", rows[i].Value, others[i].Value)
		spoil(rows[i].Value)
		for j := i + 1; j < len(rows); j++ {
			wantBytes(t, "Key of another row", rows[j].Key, others[j].Key)
			wantBytes(t, "Value of another row", rows[j].Value, others[j].Value)
		}
	}
}

// P13.11: what Rows and Bytes answer is new memory.
func TestRowsAndBytesAreNew(t *testing.T) {
	rev, rows := manyRows()
	m := holding(t, rev, rows...)
	first := m.Rows()
	for i := range first {
		spoil(first[i].Key)
		spoil(first[i].Value)
	}
	clear(first[:cap(first)])
	p := m.Bytes()
	other := m.Bytes()
	spoil(p)
	wantBytes(t, "Bytes once more", other, formOf(uint64(rev), rows...))
	wantTable(t, "behind it", m, rev, rows...)
	wantTable(t, "its copy", m.Copy(), rev, rows...)
}

// P13.4: After changes nothing, of a copy neither, and a Do behind it is as if it had not been asked.
func TestAfterChangesNothing(t *testing.T) {
	for _, op := range someOps() {
		m := made(t, put("a", "12"), put("m", "3"))
		c := m.Copy()
		for range 3 {
			m.After(op)
		}
		wantTable(t, "behind After", m, 2, row("a", "12", 1), row("m", "3", 2))
		wantDo(t, m, op, did(t, c, op))
		wantBytes(t, "behind Do", m.Bytes(), c.Bytes())
	}
}
