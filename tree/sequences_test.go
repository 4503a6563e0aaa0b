package tree_test

import (
	"fmt"
	"iter"
	"math"
	"slices"
	"sync"
	"testing"

	"haulage/tree"
)

// named is a sequence of a tree, and what it is to give.
type named struct {
	what string
	seq  iter.Seq2[int, int]
	rows []entry[int, int]
}

// sequences are those of a rising tree: all of them, from places of all kinds.
func sequences(a *tree.Tree[int, int]) []named {
	var up []entry[int, int]
	for i := range a.Len() {
		k, v, _ := a.At(i)
		up = append(up, of(k, v))
	}
	down := slices.Clone(up)
	slices.Reverse(down)
	all := []named{{"All", a.All(), up}, {"Down", a.Down(), down}}
	for k := -2; k < 2*a.Len()+2; k++ {
		all = append(all, named{fmt.Sprint("From ", k), a.From(k), up[a.Rank(k):]})
	}
	return append(all, named{"From the least", a.From(math.MinInt), up}, named{"From the greatest", a.From(math.MaxInt), nil})
}

// P5.5: what each gives, gone through again and again.
func TestSequencesAgain(t *testing.T) {
	for _, entries := range []int{0, 1, 2, 3, 12, 33} {
		for _, s := range sequences(rising(entries)) {
			for range 3 {
				wantRows(t, s.what, rows(s.seq), s.rows...)
			}
		}
	}
}

// P5.5: left at each entry, by break and by an answer of false, a sequence gives no further one; gone through again, it begins anew.
func TestSequencesLeft(t *testing.T) {
	for _, s := range sequences(rising(12)) {
		for last := range s.rows {
			var got []entry[int, int]
			for k, v := range s.seq {
				got = append(got, of(k, v))
				if len(got) == last+1 {
					break
				}
			}
			wantRows(t, s.what+", left", got, s.rows[:last+1]...)
			calls := 0
			s.seq(func(k, v int) bool {
				calls++
				return calls <= last
			})
			wantNum(t, s.what+", asked", calls, last+1)
			wantRows(t, s.what+", anew", rows(s.seq), s.rows...)
		}
	}
}

// P5.5: a sequence within itself, at each entry.
func TestSequencesNested(t *testing.T) {
	for _, s := range sequences(rising(9)) {
		var outer []entry[int, int]
		for k, v := range s.seq {
			outer = append(outer, of(k, v))
			wantRows(t, s.what+", inner", rows(s.seq), s.rows...)
			for range s.seq {
				break
			}
		}
		wantRows(t, s.what+", outer", outer, s.rows...)
	}
}

// P5.5: two ways through one sequence, taken by turns, the second some entries behind the first.
func TestSequencesByTurns(t *testing.T) {
	for _, s := range sequences(rising(9)) {
		for lag := range len(s.rows) {
			ahead, stop := iter.Pull2(s.seq)
			behind, stop2 := iter.Pull2(s.seq)
			for i := range len(s.rows) + lag {
				k, v, ok := ahead()
				if i < len(s.rows) {
					wantEntry(t, s.what+", ahead", k, v, ok, s.rows[i], true)
				}
				if i >= lag {
					k, v, ok = behind()
					wantEntry(t, s.what+", behind", k, v, ok, s.rows[i-lag], true)
				}
			}
			stop()
			stop2()
		}
	}
}

// P5.5: many ways through one sequence at one time.
func TestSequencesAtOneTime(t *testing.T) {
	for _, s := range sequences(rising(40))[:20] {
		var group sync.WaitGroup
		var got [8][]entry[int, int]
		for i := range got {
			group.Go(func() { got[i] = rows(s.seq) })
		}
		group.Wait()
		for _, g := range got {
			wantRows(t, s.what, g, s.rows...)
		}
	}
}

// P5.5: From of reals: an equal key is given, NaN gives all.
func TestFromReals(t *testing.T) {
	a := build(nan(1), math.Inf(-1), minusZero, math.Inf(1))
	wantRows(t, "From(NaN)", rows(a.From(nan(9))), rows(a.All())...)
	wantRows(t, "From(-Inf)", rows(a.From(math.Inf(-1))), of(math.Inf(-1), 1), of(minusZero, 2), of(math.Inf(1), 3))
	wantRows(t, "From(0)", rows(a.From(0)), of(minusZero, 2), of(math.Inf(1), 3))
	wantRows(t, "From(+Inf)", rows(a.From(math.Inf(1))), of(math.Inf(1), 3))
	wantRows(t, "Down", rows(a.Down()), of(math.Inf(1), 3), of(minusZero, 2), of(math.Inf(-1), 1), of(nan(1), 0))
}
