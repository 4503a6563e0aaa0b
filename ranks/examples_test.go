package ranks_test

import (
	"testing"

	"haulage/api"
	"haulage/ranks"
)

// P6.2 to P6.5: the rows of "Examples" with a sketch that grows.
func TestExamplesOfAdding(t *testing.T) {
	s := ranks.New[int](4)
	for _, row := range []struct {
		add       []int
		size      int
		ranked    []int
		low, high int
	}{
		{[]int{5, 1, 4}, 3, []int{1, 4, 5}, 2, 2},
		{[]int{2}, 3, []int{1, 2, 2, 5}, 2, 3},
		{[]int{3}, 4, []int{1, 2, 2, 3, 5}, 3, 4},
		{[]int{9}, 3, []int{1, 1, 3, 3, 9, 9}, 3, 5},
	} {
		add(t, s, row.add...)
		wantNum(t, "Size", s.Size(), row.size)
		wantQueries(t, "the example", s, row.ranked...)
		wantBelow(t, "the example", s, 4, row.low, row.high)
	}
}

// P6.1, P6.3, P6.4: the last row of "Examples".
func TestExamplesOfNothing(t *testing.T) {
	if ranks.New[int](1) != nil || ranks.New[int](1025) != nil {
		t.Fatal("New(1) or New(1025): a sketch")
	}
	var none *ranks.Sketch[int]
	wantNum(t, "Count of nil", none.Count(), 0)
	s := ranks.New[int](4)
	wantNoRank(t, "a new one", s, 1, api.ErrRankNone)
	add(t, s, 7)
	wantNoRank(t, "behind one Add", s, 0, api.ErrRankNone)
	wantNoRank(t, "behind one Add", s, 2, api.ErrRankNone)
}
