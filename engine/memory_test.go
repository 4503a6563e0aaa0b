package engine_test

import (
	"fmt"
	"slices"
	"testing"

	"haulage/api"
)

// spoil writes one byte over a list, and over the room behind it.
func spoil(p []byte) {
	p = p[:cap(p)]
	for i := range p {
		p[i] = 0xEE
	}
}

func spoilAnswer(a api.Answer) {
	spoil(a.Key)
	spoil(a.Value)
}

// roomy is a list with room behind it, and all of that memory.
func roomy(s string) (list, all []byte) {
	all = append([]byte(s), "behind"...)
	return all[:len(s)], all
}

// P18.7, P0.4: an op's Key and Value are neither changed nor kept, by Do and by Peek; spoilt, they change neither what is told, nor what is saved, nor what is opened again.
func TestOpsHandedIn(t *testing.T) {
	s := small(1, 1)
	for _, kind := range []int{api.OpPut, api.OpSwap} {
		for _, n := range []int{0, 1, 30, 256} {
			p, err := openPair(t, "a new disk", make([]byte, 64*176), 0, s, -1)
			wantErr(t, "a new disk", err, api.OK)
			key, allKey := roomy("b")
			value, allValue := roomy(text(n, 1))
			op := api.Op{Kind: kind, Key: key, Value: value}
			p.e.Peek(0, 3, 1, op)
			done(t, p.e, write(0, 3, 1, op))
			p.e.Do(write(0, 3, 1, op))
			p.e.Do(write(0, 16, 1, op))
			wantBytes(t, "the key's memory", allKey, []byte("bbehind"))
			wantBytes(t, "the value's memory", allValue, []byte(text(n, 1)+"behind"))
			spoil(key)
			spoil(value)
			p.m.do(write(0, 3, 1, api.Op{Kind: kind, Key: []byte("b"), Value: []byte(text(n, 1))}))
			p.wantAlike(t, "the op is spoilt")
			for seq := 2; p.e.Used() <= 12; seq++ {
				wantErr(t, "filling", p.do(t, "filling", puts(seq)), api.OK)
			}
			wantErr(t, "Tidy", p.tidy(t, "the op is spoilt"), api.OK)
			wantEngine(t, "the op is spoilt", p.e, p.d, 0, s, p.m.now, 2, 1)
		}
	}
}

// P18.7, P0.4: an Install's Copy is neither changed nor kept, taken or refused.
func TestCopiesHandedIn(t *testing.T) {
	s := small(2, 1)
	for _, copied := range [][]byte{copyOf(0), copyOf(9), copyOfSize(t, 1200), copyOf(9)[1:], copyOfSize(t, 3000), copyOfSize(t, 5000)} {
		p, err := openPair(t, "a new disk", make([]byte, 64*176), 1, s, -1)
		wantErr(t, "a new disk", err, api.OK)
		list, all := roomy(string(copied))
		_, wanted := p.m.do(install(0, 1, 0, copied))
		_, err = p.e.Do(install(0, 1, 0, list))
		wantErr(t, "Install", err, wanted)
		wantBytes(t, "the copy's memory", all, append(slices.Clone(copied), "behind"...))
		spoil(list)
		p.wantAlike(t, "the copy is spoilt")
		wantEngine(t, "the copy is spoilt", p.e, p.d, 1, s, p.m.now, p.m.gen, p.m.used)
	}
}

// P18.7: lists of records that are refused are not changed either; nor are those that a dead or a nil engine is handed.
func TestListsOfRefused(t *testing.T) {
	key, allKey := roomy("key")
	value, allValue := roomy(text(100, 1))
	copied, allCopied := roomy(string(copyOf(3)))
	p := mixedPair(t)
	for _, dead := range []bool{false, true} {
		if dead {
			p.d.Fuse(0)
			_, err := p.e.Do(write(0, 9, 900, put("a", "1")))
			wantErr(t, "no power", err, api.ErrEngDead)
		}
		for shard := range 7 {
			for kind := range 10 {
				p.e.Do(api.Record{Kind: kind, Shard: shard, Epoch: 80000, Peer: 1, Seq: 1, Op: api.Op{Kind: api.OpPut, Key: key, Value: value}, Copy: copied})
				p.e.Do(api.Record{Kind: api.RecWrite, Shard: shard, Seq: kind, Op: api.Op{Kind: kind, Key: key, Value: value}})
				p.e.Do(install(shard, kind, 1, copied))
				p.e.Peek(shard, 0, 1, api.Op{Kind: kind, Key: key, Value: value})
			}
		}
	}
	wantBytes(t, "the key's memory", allKey, []byte("keybehind"))
	wantBytes(t, "the value's memory", allValue, []byte(text(100, 1)+"behind"))
	wantBytes(t, "the copy's memory", allCopied, append(copyOf(3), "behind"...))
}

// P18.7: Bytes and Export are new memory each time, the room behind them too.
func TestBytesAreNew(t *testing.T) {
	p := mixedPair(t)
	before := tale(p.e)
	first, second := p.e.Bytes(), p.e.Bytes()
	spoil(first)
	wantBytes(t, "Bytes once more", second, p.m.now.Bytes())
	for shard := range 6 {
		list, other := p.e.Export(shard), p.e.Export(shard)
		spoil(list)
		wantBytes(t, "Export once more", other, p.m.now.Export(shard))
	}
	wantText(t, "behind it", tale(p.e), before)
	wantErr(t, "a write", p.do(t, "behind it", puts(2)), api.OK)
	wantEngine(t, "behind it", p.e, p.d, 0, small(3, 6), p.m.now, 1, p.m.used)
}

// P18.7, P0.4: what Do and Peek answer is new memory, and no two lists of one answer share any; spoilt, it changes nothing, then and later.
func TestAnswersAreNew(t *testing.T) {
	s := small(1, 1)
	for _, n := range []int{0, 1, 31, 255, 256} {
		for _, op := range []api.Op{put("b", "new"), del("b"), swap("b", "new", 2), swap("b", "new", 1)} {
			p, err := openPair(t, "a new disk", make([]byte, 64*176), 0, s, -1)
			wantErr(t, "a new disk", err, api.OK)
			wantErr(t, "a row", p.do(t, "a row", write(0, 3, 1, put("b", text(n, 1)))), api.OK)
			for range 2 {
				a, _, err := p.e.Peek(0, 4, 1, get("b"))
				wantErr(t, "Peek", err, api.OK)
				wantAnswer(t, "Peek", a, api.Answer{Done: true, Key: []byte("b"), Value: []byte(text(n, 1)), Rev: 1, At: 1})
				spoil(a.Key)
				wantBytes(t, "Value beside a spoilt Key", a.Value, []byte(text(n, 1)))
				spoilAnswer(a)
			}
			wanted, _ := p.m.do(write(0, 4, 1, op))
			a := done(t, p.e, write(0, 4, 1, op))
			wantAnswer(t, "Do", a, wanted)
			spoilAnswer(a)
			p.wantAlike(t, "the answer is spoilt")
			again, _, err := p.e.Peek(0, 4, 1, get("b"))
			wantErr(t, "said again", err, api.OK)
			wantAnswer(t, "said again", again, wanted)
			spoilAnswer(again)
			p.wantAlike(t, "that answer is spoilt too")
			wantEngine(t, "behind it", p.e, p.d, 0, s, p.m.now, 1, p.m.used)
		}
	}
}

// P18.7: engines over disks of the same image, or one that takes what another exports, have nothing to do with one another.
func TestEnginesShareNothing(t *testing.T) {
	p := mixedPair(t)
	before := tale(p.e)
	other := loaded(t, p.d.Image())
	e := opened(t, "another", other, 0, small(3, 6))
	copied := e.Export(0)
	for seq := 2; seq < 8; seq++ {
		done(t, e, puts(seq))
	}
	allDone(t, e, plain(api.RecCommit, 1), plain(api.RecRelease, 5), install(3, 4, 1, copied))
	wantText(t, "the first", tale(p.e), before)
	wantText(t, "the first, opened again", tale(opened(t, "again", loaded(t, p.d.Image()), 0, small(3, 6))), before)
	now := tale(e)
	done(t, p.e, puts(2))
	wantText(t, "the other", tale(e), now)
}

// P0.4: the image is written by the engine alone: what is handed in lies nowhere on the disk as memory, and neither does what is answered.
func TestDiskSharesNothing(t *testing.T) {
	s := small(2, 1)
	d := fresh(t, 176)
	e := opened(t, "a new disk", d, 1, s)
	copied := copyOfSize(t, 700)
	done(t, e, install(0, 1, 0, copied))
	image := d.Image()
	for i, list := range [][]byte{copied, e.Bytes(), e.Export(0)} {
		spoil(list)
		wantBytes(t, fmt.Sprint("Image behind list ", i), d.Image(), image)
	}
}
