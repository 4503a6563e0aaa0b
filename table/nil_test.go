package table_test

import (
	"testing"

	"haulage/api"
	"haulage/table"
)

// P13.5, P0.1: each call of a nil table; ErrNil comes ahead of the other errors.
func TestNilTable(t *testing.T) {
	var m *table.Table
	for _, op := range append(exampleOps(), get("a"), seek(""), api.Op{}, put("", ""), api.Op{Kind: 6}) {
		a, err := m.Do(op)
		wantErr(t, "Do", err, api.ErrNil)
		if told(a) != told(api.Answer{}) {
			t.Fatalf("Do: %s beside an error", told(a))
		}
		n, err := m.After(op)
		wantErr(t, "After", err, api.ErrNil)
		wantNum(t, "After", n, 0)
	}
	if m.Copy() != nil {
		t.Fatal("Copy of nil: a table")
	}
	wantNum(t, "Len", m.Len(), 0)
	wantNum(t, "Rev", m.Rev(), 0)
	wantNum(t, "Rows", len(m.Rows()), 0)
	wantNum(t, "Bytes", len(m.Bytes()), 0)
	wantNum(t, "Size", m.Size(), 0)
}

// P0.1: a table that New did not make ends each call without a panic, and is one without rows.
func TestTableOfNothing(t *testing.T) {
	m := &table.Table{}
	wantTable(t, "a table of nothing", m, 0)
	wantTable(t, "its copy", m.Copy(), 0)
	wantDo(t, m, get("a"), no("", "", 0, 0))
	wantDo(t, m, seek(""), no("", "", 0, 0))
	for _, op := range exampleOps() {
		did(t, m, op)
	}
	wantTable(t, "behind ops", m, 8, row("a", "3", 5), row("b", "", 2))
}
