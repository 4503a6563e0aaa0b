package table

import "haulage/api"

// Right: P13.1.
func Right(op api.Op) bool {
	switch op.Kind {
	case api.OpGet, api.OpDelete:
		return isKey(op.Key) && len(op.Value) == 0 && op.Rev == 0
	case api.OpPut:
		return isKey(op.Key) && isValue(op.Value) && op.Rev == 0
	case api.OpSwap:
		return isKey(op.Key) && isValue(op.Value) && op.Rev >= 0 && op.Rev <= api.MaxRev
	case api.OpSeek:
		return len(op.Key) <= api.MaxKey+1 && len(op.Value) == 0 && op.Rev == 0
	}
	return false
}

func isKey(p []byte) bool { return len(p) >= 1 && len(p) <= api.MaxKey }

func isValue(p []byte) bool { return len(p) <= api.MaxValue }

// isWrite tells a right op that has a revision from one that only reads.
func isWrite(op api.Op) bool { return op.Kind != api.OpGet && op.Kind != api.OpSeek }

// isDone says whether an op is done, the row that it asks about being so. A row that is not there has Rev 0, which is what a Swap asks for that wants none.
func isDone(op api.Op, row cell, found bool) bool {
	switch op.Kind {
	case api.OpPut:
		return true
	case api.OpSwap:
		return row.rev == op.Rev
	}
	return found
}
