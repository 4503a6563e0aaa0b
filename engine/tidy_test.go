package engine_test

import (
	"fmt"
	"testing"

	"haulage/api"
)

// P18.4, P18.10: Used at half of Log, one below and one above, for even and odd Logs, and at each other number.
func TestTidyHalf(t *testing.T) {
	for _, log := range []int{24, 25, 26, 31} {
		s := setupOf(1, 1, log, 64)
		for used := 1; used <= log; used++ {
			what := fmt.Sprintf("Log %d, Used %d", log, used)
			image := engineImage(s, 6, stateOf(t, 0, s).Bytes(), formsOf(t, writesUpTo(used-1)...)...)
			p, err := openPair(t, what, image, 0, s, -1)
			wantErr(t, what, err, api.OK)
			wantNum(t, what, p.e.Used(), used)
			wantErr(t, what, p.tidy(t, what), api.OK)
			gen, then := 6, used
			if 2*used > log {
				gen, then = 7, 1
			}
			wantBool(t, what+": at most half", p.e.Used() <= log/2, true)
			wantEngine(t, what, p.e, p.d, 0, s, stateOf(t, 0, s, writesUpTo(used-1)...), gen, then)
			if gen == 6 {
				wantBytes(t, what+": Image", p.d.Image(), image)
			}
			wantUntouched(t, what+": Tidy once more", p.d, func() { wantErr(t, what, p.e.Tidy(), api.OK) })
			wantText(t, what+": Tidy once more", tale(p.e), p.m.tale())
		}
	}
}

// P18.4: checkpoint behind checkpoint, each in the other region and slot.
func TestTidyAgainAndAgain(t *testing.T) {
	s := small(2, 3)
	p, err := openPair(t, "a new disk", make([]byte, 64*180), 0, s, -1)
	wantErr(t, "a new disk", err, api.OK)
	seq := 1
	for gen := 2; gen < 9; gen++ {
		for range 12 {
			wantErr(t, "a write", p.do(t, "again and again", write(0, seq%16, seq, put(fmt.Sprint(seq), text(seq%30, seq)))), api.OK)
			seq++
		}
		wantErr(t, "Tidy", p.tidy(t, "again and again"), api.OK)
		wantNum(t, "Gen", p.e.Gen(), gen)
		wantNum(t, "Used", p.e.Used(), 1)
		wantEngine(t, "again and again", p.e, p.d, 0, s, p.m.now, gen, 1)
	}
}

// P18.4: a Tidy that has nothing to do asks nothing of the disk, which may be without power.
func TestTidyWithoutPower(t *testing.T) {
	s := small(1, 1)
	d := fresh(t, 176)
	e := opened(t, "a new disk", d, 0, s)
	for seq := 1; seq < 12; seq++ {
		done(t, e, puts(seq))
	}
	d.Fuse(0)
	wantErr(t, "nothing to do", e.Tidy(), api.OK)
	wantBool(t, "Dead", e.Dead(), false)
	d.Fuse(-1)
	done(t, e, puts(12))
	d.Fuse(0)
	wantErr(t, "something to do", e.Tidy(), api.ErrEngDead)
	wantText(t, "a dead one", tale(e), deadTale(1, 13))
}

// P18.12: behind each call of a row, taken and refused, Open over this same disk answers an engine that tells the same; it writes nothing, and the first one goes on.
func TestOpenedAgainOverThisOne(t *testing.T) {
	p := mixedPair(t)
	for seq := 2; seq < 40; seq++ {
		for _, r := range []api.Record{puts(seq), puts(seq), plain(9, 0), plain(api.RecOwn, 0), install(3, seq, 1, copyOf(seq%9)), install(3, seq, 1, copyOf(1)), {}} {
			what := fmt.Sprintf("seq %d, %s", seq, short(r))
			if r.Kind == 0 {
				wantErr(t, what, p.tidy(t, what), api.OK)
			} else {
				p.do(t, what, r)
			}
			wantUntouched(t, what, p.d, func() {
				wantText(t, what+": opened again", tale(opened(t, what, p.d, 0, small(3, 6))), tale(p.e))
			})
		}
	}
	wantBool(t, "there were checkpoints", p.e.Gen() > 3, true)
}
