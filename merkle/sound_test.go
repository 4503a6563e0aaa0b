package merkle_test

import (
	"fmt"
	"math/rand"
	"slices"
	"testing"

	"haulage/api"
	"haulage/merkle"
)

// forge turns a proof into another one by a few changes.
func forge(r *rand.Rand, p merkle.Proof, spare []api.Row) merkle.Proof {
	p.Rows = slices.Clone(p.Rows)
	for range 1 + r.Intn(2) {
		n := len(p.Rows)
		switch k := r.Intn(6); {
		case k == 0 && n > 0:
			p.Rows = slices.Delete(p.Rows, n-1, n)
		case k == 1:
			p.Rows = append(p.Rows, spare[r.Intn(len(spare))])
		case k == 2 && n > 0:
			p.Rows[r.Intn(n)].Rev = r.Intn(100)
		case k == 3 && n > 0:
			p.Rows[r.Intn(n)].Value = []byte{byte(r.Intn(256))}
		case k == 4:
			p.Rows = nil
		default:
			p.Path[r.Intn(8)] = uint64(r.Intn(8))
		}
	}
	slices.SortFunc(p.Rows, func(a, b api.Row) int { return slices.Compare(a.Key, b.Key) })
	return p
}

// clashes says whether two unlike texts have one digest, as P10.11 lists them.
func clashes(m *merkle.Tree, bits int, key []byte, p merkle.Proof) bool {
	real := m.Prove(key)
	ours, hers := toldWay(bits, key, real), toldWay(bits, key, p)
	for i := range ours {
		if ours[i] != hers[i] {
			continue
		}
		if i > 0 && (ours[i-1] != hers[i-1] || real.Path[i-1] != p.Path[i-1]) {
			return true
		}
		if i == 0 && !slices.Equal(digestsOf(bits, real.Rows), digestsOf(bits, p.Rows)) {
			return true
		}
	}
	for _, x := range p.Rows {
		for _, y := range real.Rows {
			if !alike(x, y) && toldRow(bits, x) == toldRow(bits, y) {
				return true
			}
		}
	}
	return false
}

func digestsOf(bits int, rows []api.Row) []uint64 {
	var all []uint64
	for _, r := range rows {
		all = append(all, toldRow(bits, r))
	}
	return all
}

// P10.11: forged proofs over few bits: where Check says OK and something else than Get, there is a clash; and Check says of each proof what the second telling says.
func TestSoundButForAClash(t *testing.T) {
	r := rand.New(rand.NewSource(1011))
	rows := rowsIn(140, 6)
	deceived, refused := 0, 0
	for round := range 6000 {
		bits := 1 + r.Intn(6)
		m := fresh(t, bits, rows[:r.Intn(5)]...)
		key := rows[r.Intn(6)].Key
		p := forge(r, m.Prove(key), rows)
		what := fmt.Sprintf("round %d, %d bits", round, bits)
		got, ok, err := merkle.Check(m.Root(), bits, key, p)
		wanted, has, wantedErr := toldCheck(m.Root(), bits, key, p)
		wantErr(t, what, err, wantedErr)
		wantBool(t, what, ok, has)
		wantRow(t, what, got, wanted)
		if err != api.OK {
			refused++
			continue
		}
		real, there := m.Get(key)
		if ok == there && alike(got, real) {
			continue
		}
		deceived++
		wantBool(t, what+": a clash", clashes(m, bits, key, p), true)
	}
	if deceived < 100 || refused < 100 {
		t.Fatalf("%d deceived, %d refused: too few to tell", deceived, refused)
	}
}

// P10.11: with 64 bits none of as many forged proofs is taken for another row.
func TestSoundWith64Bits(t *testing.T) {
	r := rand.New(rand.NewSource(6411))
	rows := rowsIn(140, 6)
	for round := range 3000 {
		m := fresh(t, 64, rows[:r.Intn(5)]...)
		key := rows[r.Intn(6)].Key
		p := forge(r, m.Prove(key), rows)
		got, ok, err := merkle.Check(m.Root(), 64, key, p)
		real, there := m.Get(key)
		if err == api.OK && (ok != there || !alike(got, real)) {
			t.Fatalf("round %d: %q %v in the place of %q %v", round, got.Value, ok, real.Value, there)
		}
	}
}
