package table_test

import (
	"fmt"
	"math"
	"testing"

	"haulage/api"
	"haulage/table"
)

// bounds are the bounds of a kind's fields, as the chapter's words have them.
type bounds struct{ keyLeast, keyMost, valueMost, revMost int }

func boundsOf(kind int) (bounds, bool) {
	b, ok := map[int]bounds{
		1: {1, 64, 0, 0},
		2: {1, 64, 256, 0},
		3: {1, 64, 0, 0},
		4: {1, 64, 256, 1 << 40},
		5: {0, 65, 0, 0},
	}[kind]
	return b, ok
}

func rightByWords(op api.Op) bool {
	b, ok := boundsOf(op.Kind)
	return ok && len(op.Key) >= b.keyLeast && len(op.Key) <= b.keyMost && len(op.Value) <= b.valueMost && op.Rev >= 0 && op.Rev <= b.revMost
}

// everyShape gives ops of each kind, with each length and number at the edges.
func everyShape(see func(api.Op)) {
	for _, kind := range []int{math.MinInt, -1, 0, 1, 2, 3, 4, 5, 6, 7, math.MaxInt} {
		for _, k := range []int{0, 1, 2, 63, 64, 65, 66, 67, 1000} {
			for _, v := range []int{0, 1, 64, 65, 255, 256, 257, 5000} {
				for _, rev := range []int{math.MinInt, -1, 0, 1, 2, maxRev - 1, maxRev, maxRev + 1, math.MaxInt} {
					see(api.Op{Kind: kind, Key: []byte(text(k, 1)), Value: []byte(text(v, 2)), Rev: rev})
				}
			}
		}
	}
}

// P13.1, P0.5: each kind with each length of Key and Value and each Rev at the edges.
func TestRight(t *testing.T) {
	rights := 0
	everyShape(func(op api.Op) {
		wanted := rightByWords(op)
		if got := table.Right(op); got != wanted {
			t.Fatalf("Right(kind %d, key of %d, value of %d, rev %d): %v", op.Kind, len(op.Key), len(op.Value), op.Rev, got)
		}
		if wanted {
			rights++
		}
	})
	wantNum(t, "right ones", rights, 4+4*6+4+4*6*5+6)
}

// P13.1: nil lists and empty ones are the same, and what a key or a value is made of does not matter.
func TestRightOfAnyBytes(t *testing.T) {
	for b := range 256 {
		key := []byte{byte(b)}
		for kind := 1; kind <= 5; kind++ {
			op := api.Op{Kind: kind, Key: key}
			wantBool(t, fmt.Sprint("Right of ", op), table.Right(op), true)
			op.Value = []byte{}
			wantBool(t, fmt.Sprint("Right of ", op), table.Right(op), true)
			op.Value = key
			wantBool(t, fmt.Sprint("Right of ", op), table.Right(op), kind == api.OpPut || kind == api.OpSwap)
		}
	}
	for kind := -1; kind <= 6; kind++ {
		wantBool(t, fmt.Sprint("nil key of kind ", kind), table.Right(api.Op{Kind: kind}), kind == api.OpSeek)
		wantBool(t, fmt.Sprint("empty key of kind ", kind), table.Right(api.Op{Kind: kind, Key: []byte{}}), kind == api.OpSeek)
	}
}

// P13.3, P13.4: Do and After refuse just those ops that are not right, and nothing changes by these.
func TestRefusedOps(t *testing.T) {
	for what, m := range map[string]*table.Table{"a new one": table.New(), "one with rows": made(t, exampleOps()...), "at the end": holding(t, maxRev, row("a", "1", maxRev))} {
		before := m.Bytes()
		everyShape(func(op api.Op) {
			if rightByWords(op) {
				return
			}
			a, err := m.Do(op)
			n, other := m.After(op)
			if err != api.ErrTabOp || other != api.ErrTabOp || n != 0 || told(a) != told(api.Answer{}) {
				t.Fatalf("%s: kind %d, key of %d, value of %d, rev %d: %s %d; %d %d", what, op.Kind, len(op.Key), len(op.Value), op.Rev, told(a), err, n, other)
			}
		})
		wantBytes(t, what, m.Bytes(), before)
	}
}

// P13.3, P13.4: ops that are right are done, at the edges too.
func TestTakenOps(t *testing.T) {
	everyShape(func(op api.Op) {
		if !rightByWords(op) {
			return
		}
		m := made(t, put("a", "1"))
		n, err := m.After(op)
		wantErr(t, "After", err, api.OK)
		a := did(t, m, op)
		wantNum(t, "Size behind it", m.Size(), n)
		wantNum(t, "Size and Bytes", len(m.Bytes()), n)
		write := op.Kind == api.OpPut || op.Kind == api.OpDelete || op.Kind == api.OpSwap
		wanted := 1
		if write {
			wanted = 2
		}
		wantNum(t, "At", a.At, wanted)
		wantNum(t, "Rev", m.Rev(), wanted)
	})
}
