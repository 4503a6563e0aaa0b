package haul_test

import (
	"math"
	"testing"

	"haulage/api"
	"haulage/engine"
	"haulage/haul"
)

// P21.2 to P21.5, P0.1, P0.2: each call on a nil Haul; ErrNil is told ahead of all else.
func TestNil(t *testing.T) {
	var h *haul.Haul
	numbers := append(farNumbers(), -1, 0, 1, 7, 8, 63, 64)
	for _, shard := range numbers {
		for _, to := range numbers {
			said, err := h.Move(shard, to)
			wantNone(t, "Move", said, err, errNil)
		}
		wantErr(t, "Cancel", h.Cancel(shard), errNil)
		wantNum(t, "Left", h.Left(shard), 0)
		for kind := range 10 {
			said, err := h.Hear(plain(kind, 1, 0, shard, 1))
			wantNone(t, "Hear", said, err, errNil)
		}
	}
	said, err := h.Hear(offerOf(t, 1, 0, 0, 1, emptyCopy()))
	wantNone(t, "Hear of an offer", said, err, errNil)
	said, err = h.Tick()
	wantNone(t, "Tick", said, err, errNil)
}

// P21.1: New of a nil engine, and of one that is dead, whatever it died of.
func TestNewOfNone(t *testing.T) {
	var none *engine.Engine
	if haul.New(nil) != nil || haul.New(none) != nil {
		t.Fatal("New of a nil engine: a Haul")
	}
	for fuse := range 2 {
		d := loaded(t, make([]byte, 64*176))
		e := opened(t, "a new disk", d, 0, setupOf(2, 1))
		d.Fuse(fuse)
		_, err := e.Do(write(0, 3, 1, put("a", "1")))
		wantErr(t, "Do without power", err, errEngDead)
		if haul.New(e) != nil {
			t.Fatal("New of a dead engine: a Haul")
		}
		d.Crash(nil, -1, 0)
		if haul.New(e) != nil {
			t.Fatal("New of an engine that died, behind a crash: a Haul")
		}
	}
	d := loaded(t, make([]byte, 64*176))
	e := opened(t, "a new disk", d, 0, setupOf(2, 1))
	for seq := 1; e.Used() <= 12; seq++ {
		done(t, e, write(0, 3, seq, put("a", "1")))
	}
	d.Fuse(0)
	if haul.New(e) == nil {
		t.Fatal("New of an engine that has not met the end of its power: none")
	}
	wantErr(t, "Tidy without power", e.Tidy(), errEngDead)
	if haul.New(e) != nil {
		t.Fatal("New of an engine that died of a Tidy: a Haul")
	}
}

// P21.1: over each engine a new Haul has all shards begun anew, says nothing by itself, and writes nothing; each of two Hauls over one engine has waits of its own.
func TestNew(t *testing.T) {
	for _, shards := range []int{1, 2, 63, 64} {
		s := setupOf(8, shards)
		p := pairOfNew(t, s, 7)
		for shard := -1; shard <= maxShards; shard++ {
			wanted := 0
			if shard >= 0 && shard < shards {
				wanted = 1
			}
			wantNum(t, "Left", p.h.Left(shard), wanted)
		}
		for _, shard := range append(farNumbers(), -2, 65, 127, 128, math.MaxInt32) {
			wantNum(t, "Left of a shard that there is not", p.h.Left(shard), 0)
		}
	}
	p := pairOf(t, 0, 2, knownOf(offered(1, 1), owned(0, 0))...)
	first, second := over(t, p.e), over(t, p.e)
	for i := range 7 {
		first.Tick()
		wantNum(t, "Left of the first", first.Left(0), []int{2, 1, 4, 3, 2, 1, 8}[i])
		wantNum(t, "Left of the second", second.Left(0), 1)
	}
	p.wantAlike("other Hauls over the engine")
}

// P0.1: a Haul that New did not make ends each call without a panic.
func TestHaulOfNothing(t *testing.T) {
	h := &haul.Haul{}
	for _, n := range append(farNumbers(), -1, 0, 1, 63, 64) {
		if said, err := h.Move(n, n); err == api.OK || len(said) != 0 {
			t.Fatalf("Move(%d, %d): %v, error %d", n, n, said, err)
		}
		if err := h.Cancel(n); err == api.OK {
			t.Fatalf("Cancel(%d): OK", n)
		}
		for kind := range 10 {
			said, _ := h.Hear(plain(kind, 1, 0, n, 1))
			wantText(t, "Hear", told(said), told(nil))
		}
		wantNum(t, "Left", h.Left(n), 0)
	}
	h.Hear(offerOf(t, 1, 0, 0, 1, emptyCopy()))
	said, _ := h.Tick()
	wantText(t, "Tick", told(said), told(nil))
}
