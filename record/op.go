package record

import (
	"haulage/api"
	"haulage/parcel"
	"haulage/table"
)

// isWrite says whether an op is right, and one that may change a table: a read is never journaled.
func isWrite(op api.Op) bool {
	return op.Kind != api.OpGet && op.Kind != api.OpSeek && table.Right(op)
}

func isBlankOp(op api.Op) bool {
	return op.Kind == 0 && len(op.Key) == 0 && len(op.Value) == 0 && op.Rev == 0
}

func hasValue(op api.Op) bool { return op.Kind == api.OpPut || op.Kind == api.OpSwap }

func hasRev(op api.Op) bool { return op.Kind == api.OpSwap }

func layOp(op api.Op, w *parcel.Writer) {
	w.Byte(op.Kind)
	w.Text(op.Key)
	if hasValue(op) {
		w.Text(op.Value)
	}
	if hasRev(op) {
		w.Num(uint64(op.Rev))
	}
}

// takeOp is layOp's way back; the op may be none that is right.
func takeOp(from *parcel.Reader) api.Op {
	op := api.Op{Kind: from.Byte(), Key: from.Text(api.MaxKey)}
	if hasValue(op) {
		op.Value = from.Text(api.MaxValue)
	}
	if hasRev(op) {
		op.Rev = int(from.Num())
	}
	return op
}
