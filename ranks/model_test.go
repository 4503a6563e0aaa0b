package ranks_test

import (
	"cmp"
	"fmt"
	"math/rand"
	"slices"
	"testing"

	"haulage/api"
	"haulage/ranks"
)

// kept is an entry of the model, with what the chapter calls its gain and its gap.
type kept[T cmp.Ordered] struct {
	value     T
	gain, gap int
}

// model is a second telling of the chapter: every word is gone through anew, over lists that are made anew.
type model[T cmp.Ordered] struct {
	inverse int
	row     []T
	kept    []kept[T]
}

// behind is the order of values without the library's word for it.
func behind[T cmp.Ordered](a, b T) bool { return a > b || a == a && b != b }

// without is a list less one of its items.
func without[E any](list []E, i int) []E {
	return append(append([]E(nil), list[:i]...), list[i+1:]...)
}

// with is a list and one item more.
func with[E any](list []E, i int, e E) []E {
	return append(append(append([]E(nil), list[:i]...), e), list[i:]...)
}

func (m *model[T]) bound() int { return 2 * len(m.row) / m.inverse }

func (m *model[T]) add(x T) {
	at := 0
	for at < len(m.row) && !behind(m.row[at], x) {
		at++
	}
	m.row = with(m.row, at, x)
	at = 0
	for at < len(m.kept) && !behind(m.kept[at].value, x) {
		at++
	}
	fresh := kept[T]{x, 1, 0}
	if at > 0 && at < len(m.kept) {
		fresh.gap = m.kept[at].gain + m.kept[at].gap - 1
	}
	m.kept = with(m.kept, at, fresh)
	if len(m.row)%(m.inverse/2) == 0 {
		m.press()
	}
}

func (m *model[T]) press() {
	for i := len(m.kept) - 2; i >= 1; i-- {
		if m.kept[i].gain+m.kept[i+1].gain+m.kept[i+1].gap <= m.bound() {
			m.kept[i+1].gain += m.kept[i].gain
			m.kept = without(m.kept, i)
		}
	}
}

func (m *model[T]) floor(i int) int {
	if i < 0 {
		return 0
	}
	return m.floor(i-1) + m.kept[i].gain
}

// query goes from the last entry to the first and takes each that is no farther, so that of several the first is left.
func (m *model[T]) query(rank int) (T, api.Errno) {
	var best T
	if rank < 1 || rank > len(m.row) {
		return best, api.ErrRankNone
	}
	least, floor := 2*len(m.row), len(m.row)
	for i := len(m.kept) - 1; i >= 0; i-- {
		distance := rank - floor
		if other := floor + m.kept[i].gap - rank; other > distance {
			distance = other
		}
		if distance <= least {
			least, best = distance, m.kept[i].value
		}
		floor -= m.kept[i].gain
	}
	return best, api.OK
}

func (m *model[T]) below(x T) (int, int) {
	a := -1
	for i, e := range m.kept {
		if !behind(e.value, x) {
			a = i
		}
	}
	if a+1 == len(m.kept) {
		return m.floor(a), len(m.row)
	}
	return m.floor(a), m.floor(a+1) + m.kept[a+1].gap - 1
}

// check holds all that a sketch answers against the model, asked for the values of the pool.
func (m *model[T]) check(t *testing.T, what string, s *ranks.Sketch[T], pool []T) {
	t.Helper()
	wantNum(t, what+": Size", s.Size(), len(m.kept))
	wanted := make([]T, len(m.row))
	for i := range wanted {
		wanted[i], _ = m.query(i + 1)
	}
	wantQueries(t, what, s, wanted...)
	for _, x := range pool {
		low, high := m.below(x)
		wantBelow(t, what, s, x, low, high)
	}
}

// follow adds a row to a sketch and to its model, and holds the one against the other behind each Add.
func follow[T cmp.Ordered](t *testing.T, what string, inverse int, row, pool []T) {
	t.Helper()
	s, m := build[T](t, inverse), &model[T]{inverse: inverse}
	for i, x := range row {
		wantErr(t, what, s.Add(x), api.OK)
		m.add(x)
		m.check(t, fmt.Sprintf("%s, inverse %d, behind Add %d", what, inverse, i+1), s, pool)
	}
}

// smallInverses are even and odd ones, at which the presses come soon.
var smallInverses = []int{2, 3, 4, 5, 6, 7, 8, 9, 10, 13, 20, 31}

// P6.2 to P6.5: rows of any values, of few that are alike and of many kinds, at even and odd inverses.
func TestModel(t *testing.T) {
	dice := rand.New(rand.NewSource(6))
	reals := []float64{nan(1), nan(2), nan(3), -1.5, minusZero, 0, 2.5, 1e300, -1e300}
	texts := []string{"", "\x00", "a", "ab", "b", "\xff", "é"}
	small := []uint8{0, 1, 2, 100, 254, 255}
	for _, inverse := range smallInverses {
		for range 4 {
			length := 40 + dice.Intn(60)
			follow(t, "numbers", inverse, pick(dice, length, []int{-3, -1, 0, 1, 2, 5, 9, 11}), []int{-4, -3, -2, 0, 4, 11, 12})
			follow(t, "reals", inverse, pick(dice, length, reals), append([]float64{nan(9), 7}, reals...))
			follow(t, "texts", inverse, pick(dice, length, texts), append([]string{"aa", "\xff\xff"}, texts...))
			follow(t, "bytes", inverse, pick(dice, length, small), small)
		}
	}
}

// pick is a row of so many values of the pool.
func pick[T any](dice *rand.Rand, length int, pool []T) []T {
	row := make([]T, length)
	for i := range row {
		row[i] = pool[dice.Intn(len(pool))]
	}
	return row
}

// shaped are rows of numbers that come in all kinds of order.
func shaped(length int) map[string][]int {
	dice := rand.New(rand.NewSource(int64(length)))
	rows := map[string][]int{"mixed": dice.Perm(length), "in and out": nil, "rising": nil, "saw": nil, "alike": make([]int, length), "few": nil}
	for i := range length {
		rows["rising"] = append(rows["rising"], i)
		rows["saw"] = append(rows["saw"], i%17*length+i)
		rows["few"] = append(rows["few"], dice.Intn(5))
		if i%2 == 0 {
			rows["in and out"] = append(rows["in and out"], i/2)
		} else {
			rows["in and out"] = append(rows["in and out"], length-i/2)
		}
	}
	rows["out from within"] = slices.Clone(rows["in and out"])
	slices.Reverse(rows["out from within"])
	rows["falling"] = slices.Clone(rows["rising"])
	slices.Reverse(rows["falling"])
	return rows
}

// P6.2 to P6.5: rising, falling and other rows, behind each Add.
func TestModelOfShapes(t *testing.T) {
	for what, row := range shaped(150) {
		for _, inverse := range smallInverses {
			follow(t, what, inverse, row, []int{-1, 0, 1, 40, 75, 149, 150, 3000})
		}
	}
}

// P6.2 to P6.5: wide sketches, which press seldom.
func TestModelOfWide(t *testing.T) {
	for what, row := range shaped(2600) {
		for _, inverse := range []int{101, 1023, 1024} {
			s, m := build[int](t, inverse), &model[int]{inverse: inverse}
			for i, x := range row {
				wantErr(t, what, s.Add(x), api.OK)
				m.add(x)
				wantNum(t, fmt.Sprint(what, " with ", inverse, ": Size"), s.Size(), len(m.kept))
				if (i+1)%1300 == 0 {
					m.check(t, fmt.Sprint(what, " with ", inverse, " behind ", i+1), s, []int{-1, 0, 3, 1000, 1300, 2599, 2601})
				}
			}
		}
	}
}
