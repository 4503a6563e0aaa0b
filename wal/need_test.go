package wal_test

import (
	"fmt"
	"math"
	"math/big"
	"testing"

	"haulage/wal"
)

// wantNeed asks for the least number of pieces that take n bytes, reckoned in numbers that have no end.
func wantNeed(t *testing.T, n int) {
	t.Helper()
	want := big.NewInt(1)
	if n >= 58 {
		want.Add(big.NewInt(int64(n)), big.NewInt(56))
		want.Div(want, big.NewInt(57))
	}
	if got := wal.Need(n); want.Cmp(big.NewInt(int64(got))) != 0 {
		t.Fatalf("Need(%d) = %d, want %v", n, got, want)
	}
}

// P11.1: Need of all small numbers, those below 0 among them.
func TestNeedOfSmallNumbers(t *testing.T) {
	for n := -200; n < 3000; n++ {
		wantNeed(t, n)
	}
}

// P11.1, P0.5: every int may come.
func TestNeedOfGreatNumbers(t *testing.T) {
	for _, n := range []int{math.MinInt, math.MinInt + 1, math.MinInt32, math.MaxInt32, 1 << 40} {
		wantNeed(t, n)
	}
	for n := math.MaxInt - 200; n < math.MaxInt; n++ {
		wantNeed(t, n)
	}
	wantNeed(t, math.MaxInt)
}

// P11.1: Used and Room are the region's sectors, whatever is appended, and a record takes as many as Need says.
func TestUsedAndRoom(t *testing.T) {
	const size = 40
	l := made(t, fresh(t, size+3), 2, size, 1)
	wantLog(t, "no records", l, 1, 0, 0, 1, size-1)
	used := 1
	for i, n := range []int{0, 1, 56, 57, 58, 113, 114, 115, 171, 172, 0} {
		add(t, l, text(n, i))
		used += wal.Need(n)
		wantLog(t, fmt.Sprintf("a record of %d", n), l, 1, i+1, 0, used, size-used)
	}
	sync(t, l)
	wantLog(t, "Sync", l, 1, 11, 11, used, size-used)
}
