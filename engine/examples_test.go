package engine_test

import (
	"testing"

	"haulage/api"
	"haulage/disk"
	"haulage/engine"
)

// exampleEngine is the engine of the chapter's examples, behind their first write.
func exampleEngine(t *testing.T) (*engine.Engine, *disk.Disk) {
	t.Helper()
	d := fresh(t, 200)
	e := opened(t, "a disk of 200 sectors", d, 0, small(1, 1))
	a := done(t, e, puts(1))
	wantAnswer(t, "the first write", a, api.Answer{Done: true, At: 1})
	return e, d
}

// P18.1, P18.5: the row of Open.
func TestExampleOpen(t *testing.T) {
	e := opened(t, "a disk of 200 sectors", fresh(t, 200), 0, small(1, 1))
	wantNum(t, "Gen", e.Gen(), 1)
	wantNum(t, "Used", e.Used(), 1)
	wantBytes(t, "Bytes", e.Bytes(), []byte{0, 1, 1, 1, 0, 0, 0, 0, 0, 4, 2, 0, 0, 0})
}

// P18.2, P18.3: the rows of a Write, of Peek, and of what is refused.
func TestExampleWrite(t *testing.T) {
	e, d := exampleEngine(t)
	wantNum(t, "Used", e.Used(), 2)
	a, did, err := e.Peek(0, 3, 1, get("a"))
	wantErr(t, "Peek", err, api.OK)
	wantBool(t, "Peek: done now", did, false)
	wantAnswer(t, "Peek", a, api.Answer{Done: true, At: 1})
	wantDoRefused(t, "the same", e, d, puts(1), api.ErrShardOld)
	wantDoRefused(t, "no kind", e, d, plain(9, 0), api.ErrRecForm)
	wantDoRefused(t, "to itself", e, d, offer(0, 0), api.ErrLedgerPeer)
	wantDoRefused(t, "not offered", e, d, plain(api.RecCommit, 0), api.ErrLedgerPhase)
}

// fillExample is the row of the Puts up to a full log.
func fillExample(t *testing.T, e *engine.Engine, d *disk.Disk) {
	t.Helper()
	for seq := 2; seq <= 23; seq++ {
		done(t, e, puts(seq))
	}
	wantNum(t, "Used", e.Used(), 24)
	wantDoRefused(t, "seq 24", e, d, puts(24), api.ErrLogFull)
}

// P18.2, P18.4: the rows of a full log and of Tidy.
func TestExampleTidy(t *testing.T) {
	e, d := exampleEngine(t)
	fillExample(t, e, d)
	wantErr(t, "Tidy", e.Tidy(), api.OK)
	wantNum(t, "Gen", e.Gen(), 2)
	wantNum(t, "Used", e.Used(), 1)
	done(t, e, puts(24))
}

// P18.6, P18.11: the row of the power's end.
func TestExamplePower(t *testing.T) {
	e, d := exampleEngine(t)
	fillExample(t, e, d)
	wantErr(t, "Tidy", e.Tidy(), api.OK)
	done(t, e, puts(24))
	before := e.Bytes()
	d.Fuse(0)
	_, err := e.Do(puts(25))
	wantErr(t, "Do without power", err, api.ErrEngDead)
	wantBool(t, "Dead", e.Dead(), true)
	_, _, err = e.Peek(0, 3, 1, get("a"))
	wantErr(t, "Peek of a dead one", err, api.ErrEngDead)
	wantBytes(t, "Bytes of a dead one", e.Bytes(), nil)
	d.Crash(nil, -1, 0)
	e = opened(t, "behind a crash", d, 0, small(1, 1))
	wantNum(t, "Gen", e.Gen(), 2)
	wantNum(t, "Used", e.Used(), 2)
	wantBytes(t, "Bytes", e.Bytes(), before)
}

// P18.1: the row of what Open refuses.
func TestExampleRefused(t *testing.T) {
	_, d := exampleEngine(t)
	wantOpenRefused(t, "server 1", d, 1, small(1, 1), api.ErrArg)
	wantOpenRefused(t, "Log 23", d, 0, setupOf(1, 1, 23, 64), api.ErrArg)
	wantOpenRefused(t, "175 sectors", fresh(t, 175), 0, small(1, 1), api.ErrArg)
	wantOpenRefused(t, "2 shards", d, 0, small(1, 2), api.ErrEngDisk)
}
