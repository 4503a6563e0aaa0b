package record

import (
	"haulage/api"
	"haulage/parcel"
)

// field is what is done with one field of a record, whichever it is.
type field struct {
	isSound func(r *api.Record) bool
	lay     func(r *api.Record, w *parcel.Writer)
	take    func(r *api.Record, from *parcel.Reader)
	wipe    func(r *api.Record)
}

// fieldsOf is the kind's row of the table; none, if there is no such kind.
func fieldsOf(kind int) []field {
	rows := fieldsByKind()
	if kind < 0 || kind >= len(rows) {
		return nil
	}
	return rows[kind]
}

// fieldsByKind is the table of the fields of each kind, in the order in which they are laid down.
func fieldsByKind() [][]field {
	shard := number(func(r *api.Record) *int { return &r.Shard }, 0, api.MaxShards-1)
	epoch := number(func(r *api.Record) *int { return &r.Epoch }, 1, api.MaxEpoch)
	peer := number(func(r *api.Record) *int { return &r.Peer }, 0, api.MaxServers-1)
	client := number(func(r *api.Record) *int { return &r.Client }, 0, api.MaxClients-1)
	seq := number(func(r *api.Record) *int { return &r.Seq }, 1, api.MaxSeq)
	op := write(func(r *api.Record) *api.Op { return &r.Op })
	copied := text(func(r *api.Record) *[]byte { return &r.Copy }, api.MaxCopy)
	return [][]field{
		api.RecWrite:   {shard, client, seq, op},
		api.RecOffer:   {shard, peer},
		api.RecCancel:  {shard},
		api.RecInstall: {shard, epoch, peer, copied},
		api.RecCommit:  {shard},
		api.RecOwn:     {shard},
		api.RecRelease: {shard},
		api.RecForget:  {shard},
	}
}

// number is a field from least to most, least being no less than 0. (A number beyond all ints is taken up as one below 0, which is not sound.)
func number(of func(*api.Record) *int, least, most int) field {
	return field{
		isSound: func(r *api.Record) bool { return *of(r) >= least && *of(r) <= most },
		lay:     func(r *api.Record, w *parcel.Writer) { w.Num(uint64(*of(r))) },
		take:    func(r *api.Record, from *parcel.Reader) { *of(r) = int(from.Num()) },
		wipe:    func(r *api.Record) { *of(r) = 0 },
	}
}

// text is a field of at most so many bytes.
func text(of func(*api.Record) *[]byte, most int) field {
	return field{
		isSound: func(r *api.Record) bool { return len(*of(r)) <= most },
		lay:     func(r *api.Record, w *parcel.Writer) { w.Text(*of(r)) },
		take:    func(r *api.Record, from *parcel.Reader) { *of(r) = from.Text(most) },
		wipe:    func(r *api.Record) { *of(r) = nil },
	}
}

// write is a field that is a right op, but no read.
func write(of func(*api.Record) *api.Op) field {
	return field{
		isSound: func(r *api.Record) bool { return isWrite(*of(r)) },
		lay:     func(r *api.Record, w *parcel.Writer) { layOp(*of(r), w) },
		take:    func(r *api.Record, from *parcel.Reader) { *of(r) = takeOp(from) },
		wipe:    func(r *api.Record) { *of(r) = api.Op{} },
	}
}
