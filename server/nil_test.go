package server_test

import (
	"testing"

	"haulage/api"
	"haulage/server"
)

// P22.2, P22.4 to P22.8, P0.1, P0.2: each call on a nil server; ErrNil is told ahead of all else.
func TestNil(t *testing.T) {
	var s *server.Server
	for range 2 {
		for _, data := range [][]byte{nil, {1, 2, 3}, form(t, ask(0, 3, 1, 0, put("a", "1"))), form(t, plain(4, 1, 0, 0, 1)), form(t, offerOf(t, 1, 0, 0, 1, emptyCopy()))} {
			said, err := s.Hear(data)
			wantNone(t, "Hear", said, err, errNil)
		}
		said, err := s.Tick()
		wantNone(t, "Tick", said, err, errNil)
		for _, n := range append(farNumbers(), -1, 0, 1, 7, 8, 63, 64) {
			said, err = s.Move(n, 1)
			wantNone(t, "Move", said, err, errNil)
			said, err = s.Move(0, n)
			wantNone(t, "Move", said, err, errNil)
			wantErr(t, "Cancel", s.Cancel(n), errNil)
			l, err := s.Ledger(n)
			wantErr(t, "Ledger", err, errNil)
			if l != (api.Ledger{}) {
				t.Fatalf("Ledger: %v", l)
			}
			wantBytes(t, "Export", s.Export(n), nil)
			span, err := s.Span(n)
			wantErr(t, "Span", err, errNil)
			wantNum(t, "Span", span, 0)
		}
		if s.Dead() || len(s.Deeds()) != 0 || len(s.Loads()) != 0 || len(s.Bytes()) != 0 {
			t.Fatal("a nil server tells something")
		}
		wantNum(t, "Number", s.Number(), 0)
		wantNum(t, "Clock", s.Clock(), 0)
		wantNum(t, "Spans", s.Spans(), 0)
	}
}

// P0.1: a server that Open did not make ends each call without a panic.
func TestServerOfNothing(t *testing.T) {
	s := &server.Server{}
	for range 2 {
		for kind := 3; kind <= 8; kind++ {
			said, _ := s.Hear(form(t, plain(max(kind, 4), 1, 0, 0, 1)))
			wantText(t, "Hear", told(said), told(nil))
		}
		for _, m := range []api.Mail{ask(0, 3, 1, 0, put("a", "1")), ask(0, 3, 1, 63, seek("")), offerOf(t, 1, 0, 0, 1, emptyCopy())} {
			said, _ := s.Hear(form(t, m))
			wantText(t, "Hear", told(said), told(nil))
		}
		said, _ := s.Tick()
		wantText(t, "Tick", told(said), told(nil))
		for _, n := range append(farNumbers(), -1, 0, 1, 63, 64) {
			if said, err := s.Move(n, n); err == api.OK || len(said) != 0 {
				t.Fatalf("Move(%d, %d): %v, error %d", n, n, said, err)
			}
			if err := s.Cancel(n); err == api.OK {
				t.Fatalf("Cancel(%d): OK", n)
			}
			s.Ledger(n)
			s.Span(n)
			wantBytes(t, "Export", s.Export(n), nil)
		}
		wantBytes(t, "Bytes", s.Bytes(), nil)
		wantNum(t, "Deeds, Loads, Spans", len(s.Deeds())+len(s.Loads())+s.Spans()+s.Number(), 0)
		if s.Dead() {
			t.Fatal("it is dead")
		}
		s.Clock()
	}
}
