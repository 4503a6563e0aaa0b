package record_test

import (
	"fmt"
	"math"
	"math/rand"
	"testing"

	"haulage/api"
	"haulage/record"
)

// fieldName names the numbers of a record, and of its op.
type fieldName string

// numbers are all numbers of a record, the Kind apart, each with its place.
func numbers(r *api.Record) map[fieldName]*int {
	return map[fieldName]*int{
		"shard": &r.Shard, "epoch": &r.Epoch, "peer": &r.Peer, "client": &r.Client, "seq": &r.Seq, "op's kind": &r.Op.Kind, "op's rev": &r.Op.Rev,
	}
}

// texts are all lists of a record, each with its place.
func texts(r *api.Record) map[fieldName]*[]byte {
	return map[fieldName]*[]byte{"copy": &r.Copy, "op's key": &r.Op.Key, "op's value": &r.Op.Value}
}

// has are the bounds of the numbers that a kind has, as the chapter's words tell them.
func has(kind int) map[fieldName][2]int {
	all := map[fieldName][2]int{"shard": {0, 63}}
	switch kind {
	case 1:
		all["client"], all["seq"] = [2]int{0, 15}, [2]int{1, 1 << 30}
	case 2:
		all["peer"] = [2]int{0, 7}
	case 4:
		all["epoch"], all["peer"] = [2]int{1, 1 << 30}, [2]int{0, 7}
	}
	return all
}

// P16.1, P16.2: each kind there is, and many that there are not, with fields of one that there is.
func TestKinds(t *testing.T) {
	for from := 1; from <= 8; from++ {
		for _, r := range []api.Record{one(from), other(from)} {
			for _, kind := range append(edges(1, 8), -9, -8, -7, -6, -4, -3, 0, 5, 6, 7, 9, 10, 11, 128, 255, 256, 258, 260, 262, 264, 1<<32+6) {
				r.Kind = kind
				wantAsTold(t, r)
				if !within(kind, 1, 8) {
					wantUnsound(t, r)
				}
			}
			r.Kind = from
			wantForm(t, r, toldForm(r))
		}
	}
	wantUnsound(t, api.Record{})
}

// P16.1, P16.2, P0.5: of each kind each number of its own, at its least and its greatest, one below and one above, and far away.
func TestOwnNumbers(t *testing.T) {
	for kind := 1; kind <= 8; kind++ {
		for name, bounds := range has(kind) {
			for _, r := range []api.Record{one(kind), other(kind)} {
				for _, n := range edges(bounds[0], bounds[1]) {
					*numbers(&r)[name] = n
					if wanted := within(n, bounds[0], bounds[1]); record.Sound(r) != wanted {
						t.Fatalf("kind %d, %s %d: Sound: %v", kind, name, n, !wanted)
					}
					wantAsTold(t, r)
				}
			}
		}
	}
}

// P16.1, P16.2: just so many shards, clients and servers there are.
func TestEachSmallNumber(t *testing.T) {
	count := map[string]int{}
	for n := -300; n <= 300; n++ {
		for kind := 1; kind <= 8; kind++ {
			for name := range has(kind) {
				r := one(kind)
				*numbers(&r)[name] = n
				wantAsTold(t, r)
				if record.Sound(r) {
					count[fmt.Sprint(kind, " ", name)]++
				}
			}
		}
	}
	for what, wanted := range map[string]int{"1 shard": 64, "2 shard": 64, "3 shard": 64, "4 shard": 64, "5 shard": 64, "6 shard": 64, "7 shard": 64, "8 shard": 64, "1 client": 16, "1 seq": 300, "2 peer": 8, "4 peer": 8, "4 epoch": 300} {
		if count[what] != wanted {
			t.Errorf("%s: %d sound ones; wanted %d", what, count[what], wanted)
		}
	}
}

// P16.1, P16.2: an Install's Copy of no byte, of few, of the most and of more, whatever the bytes are.
func TestCopies(t *testing.T) {
	for _, n := range []int{0, 1, 2, 127, 128, 129, 16383, 16384, maxCopy - 1, maxCopy} {
		wantForm(t, install(0, 1, 0, text(n, n)), toldForm(install(0, 1, 0, text(n, n))))
		wantForm(t, install(63, maxEpoch, 7, text(n, n)), toldForm(install(63, maxEpoch, 7, text(n, n))))
	}
	for _, n := range []int{maxCopy + 1, maxCopy + 2, 2 * maxCopy, 1 << 21} {
		wantUnsound(t, install(0, 1, 0, text(n, n)))
		wantNoForm(t, toldForm(install(0, 1, 0, text(n, n))))
	}
	for b := range 256 {
		wantForm(t, install(2, 3, 4, string([]byte{byte(b)})), []byte{4, 2, 3, 4, 1, byte(b)})
		wantForm(t, install(2, 3, 4, string([]byte{byte(b), 0})), []byte{4, 2, 3, 4, 2, byte(b), 0})
	}
}

// P16.1, P16.2: each field that a kind has not, by itself not zero.
func TestForeignFields(t *testing.T) {
	for kind := 1; kind <= 8; kind++ {
		own := has(kind)
		for _, base := range []api.Record{one(kind), other(kind)} {
			for name := range numbers(&base) {
				if _, ok := own[name]; ok || kind == 1 && (name == "op's kind" || name == "op's rev") {
					continue
				}
				for _, n := range []int{math.MinInt, -1 << 32, -256, -1, 1, 2, 3, 4, 5, 256, 1 << 32, math.MaxInt} {
					r := base
					*numbers(&r)[name] = n
					wantUnsound(t, r)
				}
			}
			for name := range texts(&base) {
				if kind == 4 && name == "copy" || kind == 1 && name != "copy" {
					continue
				}
				for _, p := range [][]byte{{0}, {1}, {97}, make([]byte, 64), make([]byte, maxCopy+1)} {
					r := base
					*texts(&r)[name] = p
					wantUnsound(t, r)
				}
			}
		}
	}
}

// P16.1, P16.2: a whole op, and a whole kind's fields, where another kind has them not.
func TestForeignWhole(t *testing.T) {
	for kind := 2; kind <= 8; kind++ {
		for _, op := range []api.Op{put("a", "1"), put("a", ""), del("a"), swap("a", "1", 0), {Kind: 1, Key: []byte("a")}, {Kind: 5}, {Key: []byte("a"), Value: []byte("1"), Rev: 1}} {
			r := other(kind)
			r.Op = op
			wantUnsound(t, r)
		}
	}
	for kind := 1; kind <= 8; kind++ {
		for from := 1; from <= 8; from++ {
			r := other(from)
			r.Kind = kind
			wantAsTold(t, r)
			if len(has(kind)) < len(has(from)) {
				wantUnsound(t, r)
			}
		}
	}
}

// P16.1, P0.4: Copy, Key and Value of no byte may be nil or not, whether the kind has them or not.
func TestNilAndEmpty(t *testing.T) {
	room := []byte("room")
	for kind := 1; kind <= 8; kind++ {
		for _, base := range []api.Record{one(kind), other(kind)} {
			form := toldForm(base)
			for name, place := range texts(&base) {
				if len(*place) > 0 {
					continue
				}
				for _, p := range [][]byte{nil, {}, room[:0], room[2:2], room[4:]} {
					r := base
					*texts(&r)[name] = p
					wantForm(t, r, form)
				}
			}
		}
	}
	r := api.Record{Kind: 4, Epoch: 1, Op: api.Op{Key: []byte{}, Value: []byte{}}, Copy: []byte{}}
	wantForm(t, r, []byte{4, 0, 1, 0, 0})
	wantForm(t, api.Record{Kind: 1, Seq: 1, Op: api.Op{Kind: 2, Key: []byte("a")}, Copy: []byte{}}, []byte{1, 0, 0, 1, 2, 1, 97, 0})
}

// P16.1, P16.2: of a Write each kind of op, with each length of Key and Value and each Rev at the edges.
func TestOps(t *testing.T) {
	sound := 0
	for _, kind := range []int{math.MinInt, -2, -1, 0, 1, 2, 3, 4, 5, 6, 7, 255, 256, 258, 259, 260, 1<<32 + 2, 1<<32 + 3, math.MaxInt} {
		for _, k := range []int{0, 1, 2, maxKey - 1, maxKey, maxKey + 1, maxKey + 2, 1000} {
			for _, v := range []int{0, 1, 127, 128, maxValue - 1, maxValue, maxValue + 1, 5000} {
				for _, rev := range edges(0, maxRev) {
					op := api.Op{Kind: kind, Key: []byte(text(k, 1)), Value: []byte(text(v, 2)), Rev: rev}
					for _, r := range []api.Record{write(0, 0, 1, op), write(63, 15, maxSeq, op)} {
						wantAsTold(t, r)
						if record.Sound(r) {
							sound++
						}
					}
				}
			}
		}
	}
	revs := map[int]int{}
	for _, rev := range edges(0, maxRev) {
		revs[rev]++
	}
	within, zeros := 0, revs[0]
	for rev, n := range revs {
		if rev >= 0 && rev <= maxRev {
			within += n
		}
	}
	if wanted := 2 * 4 * (6*zeros + zeros + 6*within); sound != wanted {
		t.Errorf("%d sound ones; wanted %d", sound, wanted)
	}
}

// P16.1: what a Key and a Value are made of does not matter.
func TestOpsOfAnyBytes(t *testing.T) {
	for b := range 256 {
		one := string([]byte{byte(b)})
		wantForm(t, write(1, 2, 3, put(one, one)), []byte{1, 1, 2, 3, 2, 1, byte(b), 1, byte(b)})
		wantForm(t, write(1, 2, 3, del(one)), []byte{1, 1, 2, 3, 3, 1, byte(b)})
		wantForm(t, write(1, 2, 3, swap(one, one, b)), append([]byte{1, 1, 2, 3, 4, 1, byte(b), 1, byte(b)}, numOf(b).bytes...))
	}
}

// P16.1, P16.2, P0.1: records whose every field is at random near or at an edge.
func TestAnyRecords(t *testing.T) {
	dice := rand.New(rand.NewSource(1))
	some := func(least, most int) int {
		if dice.Intn(3) == 0 {
			return 0
		}
		all := edges(least, most)
		return all[dice.Intn(len(all))]
	}
	list := func(most int) []byte {
		if dice.Intn(3) == 0 {
			return nil
		}
		return []byte(text([]int{0, 1, 2, most - 1, most, most + 1}[dice.Intn(6)], dice.Int()))
	}
	for range 200000 {
		op := api.Op{Kind: dice.Intn(7) - 1, Key: list(maxKey), Value: list(maxValue), Rev: some(0, maxRev)}
		r := api.Record{Kind: dice.Intn(11) - 1, Shard: some(0, 63), Epoch: some(1, maxEpoch), Peer: some(0, 7), Client: some(0, 15), Seq: some(1, maxSeq), Op: op, Copy: list(300)}
		wantAsTold(t, r)
	}
}

// P16.1, P16.2: sound records of which one field is another one.
func TestSoundButOne(t *testing.T) {
	dice := rand.New(rand.NewSource(2))
	bounds := map[fieldName][2]int{"shard": {0, 63}, "epoch": {1, maxEpoch}, "peer": {0, 7}, "client": {0, 15}, "seq": {1, maxSeq}, "op's kind": {2, 4}, "op's rev": {0, maxRev}}
	for range 1000 {
		base := anySound(dice)
		wantForm(t, base, toldForm(base))
		for name, b := range bounds {
			for _, n := range edges(b[0], b[1]) {
				r := base
				*numbers(&r)[name] = n
				wantAsTold(t, r)
			}
		}
		for name := range texts(&base) {
			for _, n := range []int{0, 1, maxKey, maxKey + 1, maxValue, maxValue + 1} {
				r := base
				*texts(&r)[name] = []byte(text(n, 5))
				wantAsTold(t, r)
			}
		}
	}
}
