package engine_test

import (
	"fmt"
	"testing"

	"haulage/api"
	"haulage/engine"
)

// wantDead asks all calls of a dead engine: each answers ErrEngDead, ahead of any other error, tells nothing, and does nothing.
func wantDead(t *testing.T, what string, p *pair, gen, used int) {
	t.Helper()
	wantUntouched(t, what, p.d, func() {
		for shard := range 7 {
			for _, r := range []api.Record{puts(1), puts(500), plain(9, shard), {}, offer(shard, 0), offer(shard, 9), install(shard, 900, 1, copyOf(1)), plain(api.RecCommit, shard), plain(api.RecCancel, shard)} {
				a, err := p.e.Do(r)
				wantErr(t, what+": Do", err, api.ErrEngDead)
				wantAnswer(t, what+": Do", a, api.Answer{})
			}
			for _, op := range opsOfAllKinds() {
				a, did, err := p.e.Peek(shard, 3, 1, op)
				wantErr(t, what+": Peek", err, api.ErrEngDead)
				wantBool(t, what+": Peek", did, false)
				wantAnswer(t, what+": Peek", a, api.Answer{})
			}
		}
		for _, shard := range append(farNumbers(), -1, 0, 1, 2, 3, 4, 5, 6, 64) {
			l, err := p.e.Ledger(shard)
			wantErr(t, what+": Ledger", err, api.ErrEngDead)
			wantText(t, what+": Ledger", fmt.Sprint(l), fmt.Sprint(api.Ledger{}))
			wantBytes(t, what+": Export", p.e.Export(shard), nil)
			wantBool(t, what+": Root", p.e.Root(shard) == 0, true)
		}
		wantErr(t, what+": Tidy", p.e.Tidy(), api.ErrEngDead)
		wantBytes(t, what+": Bytes", p.e.Bytes(), nil)
		wantText(t, what+": the numbers", fmt.Sprint(p.e.Server(), p.e.Servers(), p.e.Shards(), p.e.Gen(), p.e.Used(), p.e.Dead()), fmt.Sprint(0, 0, 0, gen, used, true))
	})
}

// death is a call of an engine over an image, by which it may die.
type death struct {
	image []byte
	call  func(t *testing.T, what string, p *pair) api.Errno
}

// deaths are calls of an engine of server 0, setup small(3, 6).
func deaths(t *testing.T) map[string]death {
	t.Helper()
	does := func(r api.Record) func(t *testing.T, what string, p *pair) api.Errno {
		return func(t *testing.T, what string, p *pair) api.Errno { return p.do(t, what, r) }
	}
	tidies := func(t *testing.T, what string, p *pair) api.Errno { return p.tidy(t, what) }
	s := small(3, 6)
	state := stateOf(t, 0, s, mixed()...).Bytes()
	full := engineImage(s, 1, state, formsOf(t, writesFrom(2, 23)...)...)
	both := imageOf(region(24, 5, formsOf(t, writesFrom(2, 20)...)...), region(24, 4, formsOf(t, writesFrom(2, 17)...)...), slot(64, 5, state), slot(64, 4, []byte(text(600, 1))))
	return map[string]death{
		"a write of one sector":                   {engineImage(s, 1, state), does(puts(2))},
		"a write of some sectors":                 {engineImage(s, 2, state), does(write(0, 3, 2, put("a", text(250, 1))))},
		"an Install of many":                      {engineImage(s, 2, state), does(install(3, 1, 1, copyOfSize(t, 1000)))},
		"a record that makes the first ckpt":      {full, does(plain(api.RecCommit, 1))},
		"an Install that makes one":               {full, does(install(3, 1, 2, copyOf(40)))},
		"an Install that makes one over old ones": {both, does(install(3, 1, 2, copyOfSize(t, 800)))},
		"a Tidy":               {full, tidies},
		"a Tidy over old ones": {both, tidies},
	}
}

// writesFrom are writes of one sector each.
func writesFrom(first, n int) []api.Record {
	var all []api.Record
	for i := range n {
		all = append(all, puts(first+i))
	}
	return all
}

// P18.6: the power's end ahead of each write and sync of Do and of Tidy: that call answers ErrEngDead, and each later one, whatever becomes of the power. Gen and Used are as they were.
func TestDead(t *testing.T) {
	for name, c := range deaths(t) {
		ends := 0
		for fuse := 0; ; fuse++ {
			what := fmt.Sprintf("%s, fuse %d", name, fuse)
			p, err := openPair(t, what, c.image, 0, small(3, 6), -1)
			wantErr(t, what, err, api.OK)
			p.d.Fuse(fuse)
			p.m.disk.Fuse(fuse)
			if err = c.call(t, what, p); err == api.OK {
				break
			}
			ends++
			wantErr(t, what, err, api.ErrEngDead)
			gen, used := p.e.Gen(), p.e.Used()
			wantText(t, what, tale(p.e), deadTale(p.m.gen, p.m.used))
			wantDead(t, what, p, gen, used)
			p.d.Fuse(-1)
			wantDead(t, what+", the power is there again", p, gen, used)
			p.d.Crash([]bool{true, false, true}, 1, 30)
			wantDead(t, what+", crashed", p, gen, used)
		}
		if ends < 2 {
			t.Fatalf("%s: the power went in %d ways alone", name, ends)
		}
	}
}

// P18.5, P18.6: Gen and Used of one that died, where it is plain how they were: without power from the first on, and within a checkpoint.
func TestDeadAsTheyWere(t *testing.T) {
	s := small(3, 6)
	for _, fuse := range []int{0, 1, 2, 3, 4, 5, 6} {
		for name, call := range map[string]func(e *engine.Engine) api.Errno{
			"Tidy":  func(e *engine.Engine) api.Errno { return e.Tidy() },
			"Offer": func(e *engine.Engine) api.Errno { _, err := e.Do(offer(0, 1)); return err },
		} {
			d := loaded(t, engineImage(s, 1, stateOf(t, 0, s).Bytes(), formsOf(t, writesUpTo(23)...)...))
			e := opened(t, "a full log", d, 0, s)
			d.Fuse(fuse)
			what := fmt.Sprintf("%s, fuse %d", name, fuse)
			wantErr(t, what, call(e), api.ErrEngDead)
			wantText(t, what, tale(e), deadTale(1, 24))
		}
	}
	d := loaded(t, engineImage(s, 2, stateOf(t, 0, s).Bytes(), formsOf(t, writesUpTo(5)...)...))
	e := opened(t, "some records", d, 0, s)
	d.Fuse(0)
	_, err := e.Do(puts(6))
	wantErr(t, "no power", err, api.ErrEngDead)
	wantText(t, "no power", tale(e), deadTale(2, 6))
}

// P18.6, P18.9: what is refused without the disk being asked is told as ever without power, and the engine lives; so does one whose power was off between two calls.
func TestRefusedWithoutPower(t *testing.T) {
	p := mixedPair(t)
	for shard := range 7 {
		for _, r := range append(recordsOfAllKinds(shard), unsound(shard)...) {
			other, _ := openPair(t, "a twin", p.d.Image(), 0, small(3, 6), -1)
			if _, wanted := other.m.do(r); wanted != api.OK {
				p.d.Fuse(0)
				wantDoRefused(t, "without power", p.e, p.d, r, wanted)
				p.d.Fuse(-1)
			}
		}
	}
	p.d.Fuse(0)
	p.d.Fuse(-1)
	p.d.Crash(nil, 0, 1)
	wantBool(t, "Dead", p.e.Dead(), false)
	wantErr(t, "a write", p.do(t, "it lives", puts(2)), api.OK)
}

// P18.6: a refusal for want of room, too.
func TestFullWithoutPower(t *testing.T) {
	e, d, seq := filledUp(t, 2, 0)
	d.Fuse(0)
	wantDoRefused(t, "no power", e, d, puts(seq), api.ErrLogFull)
	wantDoRefused(t, "no power", e, d, install(2, 1, 1, copyOfSize(t, 1500)), api.ErrLogFull)
	wantDoRefused(t, "no power", e, d, install(2, 1, 1, copyOfSize(t, 4100)), api.ErrDiskFull)
	wantBool(t, "Dead", e.Dead(), false)
	_, err := e.Do(offer(0, 1))
	wantErr(t, "a record that makes a checkpoint", err, api.ErrEngDead)
	wantBool(t, "Dead", e.Dead(), true)
}

// P18.6: an engine is dead by what it met itself: another one over the same disk is not, and one that Open makes anew isn't either.
func TestOneDeadAlone(t *testing.T) {
	s := small(1, 1)
	d := fresh(t, 176)
	a := opened(t, "the one", d, 0, s)
	b := opened(t, "the other", d, 0, s)
	d.Fuse(0)
	_, err := a.Do(puts(1))
	wantErr(t, "the one", err, api.ErrEngDead)
	d.Fuse(-1)
	wantBool(t, "the other is dead", b.Dead(), false)
	done(t, b, puts(1))
	c := opened(t, "a third", d, 0, s)
	wantText(t, "a third", tale(c), tale(b))
	wantBool(t, "the one is dead", a.Dead(), true)
}
