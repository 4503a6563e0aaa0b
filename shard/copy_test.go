package shard_test

import (
	"math/rand"
	"testing"

	"haulage/shard"
)

// P14.1: a copy is the same, and then writes on both have nothing to do with one another.
func TestCopy(t *testing.T) {
	m := seated(2)
	s := shardOf(t, m)
	c := s.Copy()
	wantShard(t, "the copy", c, m)
	other := m.clone()
	for i, op := range oneOfEach("a") {
		wantAsTold(t, "on the copy", c, &other, 2, 6+i, op)
		wantShard(t, "the copy behind it", c, other)
		wantShard(t, "the shard behind it", s, m)
	}
	still := other.clone()
	for i, op := range oneOfEach("b") {
		wantAsTold(t, "on the shard", s, &m, 2, 6+i, op)
		wantAsTold(t, "on the shard", s, &m, 7, 6+i, op)
		wantShard(t, "the shard behind it", s, m)
		wantShard(t, "the copy behind it", c, still)
	}
}

// P14.1: copies of copies, each with its own way.
func TestCopiesGoTheirWays(t *testing.T) {
	dice := rand.New(rand.NewSource(141))
	all := []*shard.Shard{shard.New()}
	models := []telling{tell(0)}
	for range 400 {
		i := dice.Intn(len(all))
		if len(all) < 12 && dice.Intn(10) == 0 {
			all = append(all, all[i].Copy())
			models = append(models, models[i].clone())
			continue
		}
		client, seq := someRequest(dice, models[i])
		wantAsTold(t, "one of them", all[i], &models[i], client, seq, someOp(dice, models[i].rev))
		for j := range all {
			wantBytes(t, "each of them", all[j].Export(), models[j].form())
		}
	}
	for j := range all {
		wantShard(t, "each of them", all[j], models[j])
	}
}

// P14.1: two shards of New, and two of Import, have nothing to do with one another.
func TestShardsApart(t *testing.T) {
	a, b := shard.New(), shard.New()
	wantDo(t, a, 0, 1, put("a", "1"), yes("", "", 0, 1), true)
	wantShard(t, "the other", b, tell(0))
	wantShard(t, "a further one", shard.New(), tell(0))
	form := a.Export()
	c, d := imported(t, form), imported(t, form)
	wantDo(t, c, 0, 2, put("a", "2"), yes("a", "1", 1, 2), true)
	wantBytes(t, "the other imported", d.Export(), form)
	wantBytes(t, "the one that was exported", a.Export(), form)
}
