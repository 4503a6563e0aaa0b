package ranks

import (
	"cmp"
	"fmt"
	"math"
	"math/rand"
	"slices"
	"testing"
)

// sketch is one of these values, its entries to be looked at.
func sketch[T cmp.Ordered](inverse int, row ...T) *Sketch[T] {
	s := New[T](inverse)
	for _, x := range row {
		s.Add(x)
	}
	return s
}

func wantEntries(t *testing.T, what string, s *Sketch[int], wanted ...entry[int]) {
	t.Helper()
	if !slices.Equal(s.entries, wanted) {
		t.Fatalf("%s: entries %v, want %v", what, s.entries, wanted)
	}
}

// P6.2: the entries of the chapter's examples, and of two Adds more.
func TestEntriesOfExamples(t *testing.T) {
	s := sketch(4, 5, 1, 4)
	wantEntries(t, "5, 1, 4", s, entry[int]{1, 1, 0}, entry[int]{4, 1, 0}, entry[int]{5, 1, 0})
	s.Add(2)
	wantEntries(t, "then 2", s, entry[int]{1, 1, 0}, entry[int]{2, 1, 0}, entry[int]{5, 2, 0})
	s.Add(3)
	wantEntries(t, "then 3", s, entry[int]{1, 1, 0}, entry[int]{2, 1, 0}, entry[int]{3, 1, 1}, entry[int]{5, 2, 0})
	s.Add(9)
	wantEntries(t, "then 9", s, entry[int]{1, 1, 0}, entry[int]{3, 2, 1}, entry[int]{9, 3, 0})
	s.Add(3)
	wantEntries(t, "then 3", s, entry[int]{1, 1, 0}, entry[int]{3, 2, 1}, entry[int]{3, 1, 2}, entry[int]{9, 3, 0})
	s.Add(0)
	wantEntries(t, "then 0", s, entry[int]{0, 1, 0}, entry[int]{3, 3, 1}, entry[int]{9, 4, 0})
}

// P6.2: a new entry's gap: 0 at the ends, though the one behind it be wide; within, that of the one behind it and its gain, less 1.
func TestGaps(t *testing.T) {
	s := &Sketch[int]{inverse: 1000, count: 12, entries: []entry[int]{{10, 1, 0}, {20, 5, 2}, {30, 6, 0}}}
	s.Add(15)
	s.Add(20)
	s.Add(30)
	s.Add(5)
	s.Add(10)
	wantEntries(t, "gaps", s, entry[int]{5, 1, 0}, entry[int]{10, 1, 0}, entry[int]{10, 1, 6}, entry[int]{15, 1, 6},
		entry[int]{20, 5, 2}, entry[int]{20, 1, 5}, entry[int]{30, 6, 0}, entry[int]{30, 1, 0})
}

// P6.2: the ends have no gap, whatever stands beside them.
func TestGapsAtEnds(t *testing.T) {
	wide := []entry[int]{{10, 3, 2}, {20, 4, 1}}
	for place, wanted := range []int{0, 4, 0} {
		if got := gapAt(wide, place); got != wanted {
			t.Errorf("place %d: gap %d, want %d", place, got, wanted)
		}
	}
}

// P6.2: an entry goes if all together is the bound, not if it is one more; what it had gained goes with it, its gap does not; the first and the last stay, whatever the bound.
func TestPress(t *testing.T) {
	wide := []entry[int]{{10, 1, 0}, {20, 2, 7}, {30, 3, 2}, {40, 4, 0}}
	for bound, wanted := range map[int][]entry[int]{
		1:  wide,
		6:  wide,
		7:  {{10, 1, 0}, {20, 2, 7}, {40, 7, 0}},
		8:  {{10, 1, 0}, {20, 2, 7}, {40, 7, 0}},
		9:  {{10, 1, 0}, {40, 9, 0}},
		99: {{10, 1, 0}, {40, 9, 0}},
	} {
		got := press(slices.Clone(wide), bound)
		if !slices.Equal(got, wanted) {
			t.Errorf("bound %d: %v, want %v", bound, got, wanted)
		}
	}
	skipped := []entry[int]{{10, 1, 0}, {20, 1, 0}, {30, 1, 0}, {40, 9, 0}}
	if got := press(slices.Clone(skipped), 2); !slices.Equal(got, []entry[int]{{10, 1, 0}, {30, 2, 0}, {40, 9, 0}}) {
		t.Errorf("one stays and the one ahead of it goes: %v", got)
	}
	for few := range 3 {
		if got := press(slices.Clone(wide[:few]), 99); !slices.Equal(got, wide[:few]) {
			t.Errorf("%d entries: %v", few, got)
		}
	}
}

// P6.2: pressed is at multiples of half the inverse, rounded down, with the bound of that n.
func TestPressIsDue(t *testing.T) {
	for inverse := 2; inverse <= 1024; inverse++ {
		s := New[int](inverse)
		for n := range 2100 {
			s.count = n + 1
			if s.due() != ((n+1)%(inverse/2) == 0) {
				t.Fatalf("inverse %d, n %d: %v", inverse, n+1, s.due())
			}
		}
	}
}

// P6.4: the distance is the greater of both sides; of several that are least it is the first.
func TestDistances(t *testing.T) {
	gapped := []entry[int]{{10, 1, 0}, {20, 1, 5}, {30, 9, 0}} // floors 1, 2, 11, ceilings 1, 7, 11
	for i, wanted := range []int{10, 10, 10, 10, 20, 20, 30, 30, 30, 30, 30} {
		if got := nearest(gapped, i+1); got != wanted {
			t.Errorf("rank %d: %d, want %d", i+1, got, wanted)
		}
	}
}

// P0.4: texts whose entries have gone are not kept in the spare room.
func TestGoneIsGone(t *testing.T) {
	s := New[string](2)
	for range 100 {
		s.Add("a text")
		for _, e := range s.entries[len(s.entries):cap(s.entries)] {
			if e.value != "" {
				t.Fatal("a value is left behind the entries")
			}
		}
	}
}

// wantBetween holds entries against the row of all values that were added, each the very same to its bits.
func wantBetween[T cmp.Ordered](t *testing.T, what string, s *Sketch[T], row []T, same func(a, b T) bool) {
	t.Helper()
	floor, last := 0, len(s.entries)-1
	for i, e := range s.entries {
		floor += e.gain
		if e.gain < 1 || e.gap < 0 || floor+e.gap > len(row) {
			t.Fatalf("%s: entry %d of %d: %v, floor %d", what, i, last+1, e, floor)
		}
		if !slices.ContainsFunc(row[floor-1:floor+e.gap], func(x T) bool { return same(x, e.value) }) {
			t.Fatalf("%s: no %v from rank %d to %d", what, e.value, floor, floor+e.gap)
		}
	}
	if !same(s.entries[0].value, row[0]) || !same(s.entries[last].value, row[len(row)-1]) || floor != len(row) {
		t.Fatalf("%s: first %v, last %v, floor %d of %d", what, s.entries[0].value, s.entries[last].value, floor, len(row))
	}
}

// P6.6: behind each Add each entry's value is one of a rank from its floor to its ceiling; reals tell which of those that are alike it is.
func TestBetween(t *testing.T) {
	dice := rand.New(rand.NewSource(66))
	sameBits := func(a, b float64) bool { return math.Float64bits(a) == math.Float64bits(b) }
	for _, inverse := range []int{2, 3, 4, 5, 9, 16, 33, 100} {
		for _, unlike := range []int{1, 3, 20, 2000} {
			s, row := New[float64](inverse), []float64(nil)
			for n := range 600 {
				x := float64(dice.Intn(unlike)-unlike/2) / 2
				if dice.Intn(4) == 0 {
					x = math.Float64frombits(0x7FF8000000000000 + uint64(n))
				} else if x == 0 && dice.Intn(2) == 0 {
					x = math.Copysign(0, -1)
				}
				s.Add(x)
				row = append(row, x)
				slices.SortStableFunc(row, cmp.Compare[float64])
				wantBetween(t, fmt.Sprintf("inverse %d, %d unlike, n %d", inverse, unlike, n+1), s, row, sameBits)
			}
		}
	}
}

// P6.6: rising, falling and alternating rows.
func TestBetweenOfShapes(t *testing.T) {
	for _, inverse := range []int{2, 3, 4, 7, 32, 101} {
		up, down, both := New[int](inverse), New[int](inverse), New[int](inverse)
		var rising, falling, out []int
		same := func(a, b int) bool { return a == b }
		for n := range 1000 {
			up.Add(n)
			down.Add(-n)
			both.Add(n - n%2*2*n)
			rising, falling, out = append(rising, n), append(falling, -n), append(out, n-n%2*2*n)
			slices.Sort(falling)
			slices.Sort(out)
			wantBetween(t, "rising", up, rising, same)
			wantBetween(t, "falling", down, falling, same)
			wantBetween(t, "out", both, out, same)
		}
	}
}
