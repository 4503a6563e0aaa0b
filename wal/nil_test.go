package wal_test

import (
	"math"
	"testing"

	"haulage/api"
	"haulage/wal"
)

// P11.1 to P11.5, P0.1: each call of a nil log.
func TestNilLog(t *testing.T) {
	var l *wal.Log
	for _, n := range []int{0, 1, 57, 58, 100000} {
		wantErr(t, "Append", l.Append(make([]byte, n)), api.ErrNil)
	}
	wantErr(t, "Append(nil)", l.Append(nil), api.ErrNil)
	wantErr(t, "Sync", l.Sync(), api.ErrNil)
	for _, gen := range append(wrongGens(), 1, 1<<40, math.MaxInt) {
		wantErr(t, "Reset", l.Reset(gen), api.ErrNil)
	}
	wantLog(t, "a nil log", l, 0, 0, 0, 0, 0)
}

// P0.1: a Log that neither Make nor Open made ends each call without a panic.
func TestLogOfNothing(t *testing.T) {
	for _, call := range []func(l *wal.Log) api.Errno{
		func(l *wal.Log) api.Errno { return l.Append(nil) },
		func(l *wal.Log) api.Errno { return l.Append(text(100, 1)) },
		func(l *wal.Log) api.Errno { return l.Sync() },
		func(l *wal.Log) api.Errno { return l.Reset(0) },
		func(l *wal.Log) api.Errno { return l.Reset(1) },
	} {
		l := &wal.Log{}
		if err := call(l); err == api.OK {
			t.Fatal("a log without a disk took something")
		}
		wantLog(t, "a log of nothing", l, 0, 0, 0, 0, 0)
	}
}
