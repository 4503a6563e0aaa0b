package merkle_test

import (
	"fmt"
	"math"
	"math/rand"
	"testing"

	"haulage/api"
	"haulage/merkle"
)

// someKey is a key of few bytes of few kinds, so that many come again.
func someKey(r *rand.Rand) []byte {
	key := make([]byte, r.Intn(4))
	for i := range key {
		key[i] = "\x00ab\xff"[r.Intn(4)]
	}
	return key
}

func someRow(r *rand.Rand) api.Row {
	value := make([]byte, r.Intn(3))
	r.Read(value)
	revs := []int{r.Intn(3), -r.Intn(3), math.MinInt, math.MaxInt, int(r.Uint64())}
	return api.Row{Key: someKey(r), Value: value, Rev: revs[r.Intn(len(revs))]}
}

// someTold is the second telling of some rows.
func someTold(r *rand.Rand, bits int) told {
	m := tell(bits)
	for range r.Intn(30) {
		x := someRow(r)
		m.rows[string(x.Key)] = x
	}
	return m
}

// change puts a few rows and takes a few away.
func change(r *rand.Rand, m told) {
	for range r.Intn(4) {
		x := someRow(r)
		m.rows[string(x.Key)] = x
		delete(m.rows, string(someKey(r)))
	}
}

// asTold asks a tree everything, once, and holds it against the second telling.
func asTold(t *testing.T, what string, r *rand.Rand, m *merkle.Tree, model told) {
	t.Helper()
	wantTree(t, what, m, model.bits, model.all()...)
	key := someKey(r)
	x, has := model.rows[string(key)]
	got, ok := m.Get(key)
	wantBool(t, what+": Get", ok, has)
	wantRow(t, what+": Get", got, x)
	p := m.Prove(key)
	wantProof(t, what+": Prove", p, model.prove(key))
	got, ok, err := merkle.Check(m.Root(), model.bits, key, p)
	wantErr(t, what+": Check", err, api.OK)
	wantBool(t, what+": Check", ok, has)
	wantRow(t, what+": Check", got, x)
}

// P10.1 to P10.10: rows of any calls, with any bits, against the second telling.
func TestAsTold(t *testing.T) {
	r := rand.New(rand.NewSource(10))
	for round := range 120 {
		bits := 1 + r.Intn(64)
		model := someTold(r, bits)
		m := fresh(t, bits, model.all()...)
		for step := range 20 {
			what := fmt.Sprintf("round %d, step %d, %d bits", round, step, bits)
			if r.Intn(2) == 0 {
				x := someRow(r)
				m.Put(x)
				model.rows[string(x.Key)] = x
			} else {
				key := someKey(r)
				_, has := model.rows[string(key)]
				wantBool(t, what+": Delete", m.Delete(key), has)
				delete(model.rows, string(key))
			}
			asTold(t, what, r, m, model)
		}
	}
}

// P10.7: Diff of any two trees, alike in most or in nothing, with any bits, against the second telling.
func TestDiffAsTold(t *testing.T) {
	r := rand.New(rand.NewSource(107))
	for round := range 2000 {
		bits := 1 + r.Intn(64)
		if r.Intn(2) == 0 {
			bits = 1 + r.Intn(6)
		}
		a, b := someTold(r, bits), someTold(r, bits)
		if r.Intn(2) == 0 {
			b = tell(bits, a.all()...)
			change(r, b)
		}
		lines, pairs := toldDiff(a, b)
		wantDiff(t, fmt.Sprintf("round %d, %d bits", round, bits), fresh(t, bits, a.all()...), fresh(t, bits, b.all()...), pairs, lines...)
	}
}
