package engine

import (
	"haulage/api"
	"haulage/record"
	"haulage/shot"
	"haulage/state"
	"haulage/wal"
)

// attempt is the face of all that is done with the disk: who gives up deep inside does so by a panic with an error's number; here that is answered, and the engine is dead.
func (e *Engine) attempt(work func()) (err api.Errno) {
	defer func() {
		if why := recover(); why != nil {
			e.state = nil // nobody knows how far it went
			err = why.(api.Errno)
		}
	}()
	work()
	return api.OK
}

// giveUpAt gives up at an error.
func giveUpAt(err api.Errno) {
	if err != api.OK {
		panic(err)
	}
}

// giveUpIf gives up with an error, if something is so.
func giveUpIf(wrong bool, err api.Errno) {
	if wrong {
		panic(err)
	}
}

// find takes up what the disk has; on one without a snapshot the engine begins.
func (e *Engine) find(server int, s api.Setup) {
	shots, data, err := shot.Open(e.disk, 2*e.logSize, s.Layout.Shot)
	giveUpAt(err)
	e.shots = shots
	if shots.Gen() == 0 {
		e.begin(server, s)
		return
	}
	e.recall(data, server, s)
	e.redo()
}

// begin makes the first checkpoint.
func (e *Engine) begin(server int, s api.Setup) {
	first, err := state.New(server, s.Servers, s.Shards)
	giveUpAt(err)
	giveUpIf(first.Size() > e.shots.Most(), api.ErrDiskFull)
	e.state = first
	e.checkpoint()
}

// recall takes up the state that a snapshot's data tells.
func (e *Engine) recall(data []byte, server int, s api.Setup) {
	saved, err := state.Read(data)
	giveUpIf(err != api.OK, api.ErrEngDisk)
	giveUpIf(saved.Server() != server || saved.Servers() != s.Servers || saved.Shards() != s.Shards, api.ErrEngDisk)
	e.state = saved
}

// redo opens the log of the state that was saved, and does its records again.
func (e *Engine) redo() {
	log, forms, err := wal.Open(e.disk, e.regionOf(e.Gen()), e.logSize)
	giveUpIf(err == api.ErrWalForm, api.ErrEngDisk)
	giveUpAt(err)
	giveUpIf(log.Gen() != e.Gen(), api.ErrEngDisk)
	for _, form := range forms {
		r, err := record.Decode(form)
		giveUpIf(err != api.OK, api.ErrEngDisk)
		_, err = e.state.Apply(r)
		giveUpIf(err != api.OK || e.state.Size() > e.shots.Most(), api.ErrEngDisk)
	}
	e.log = log
}

// journal has a record's form safe on the disk. Where the log has no room for it, a checkpoint comes first.
func (e *Engine) journal(form []byte) {
	if wal.Need(len(form)) > e.log.Room() {
		e.checkpoint()
	}
	giveUpAt(e.log.Append(form))
	giveUpAt(e.log.Sync())
}

// checkpoint saves the state as a whole, with a log of its own behind it. The log is made first, for it is asked for as soon as the snapshot counts; up to then the old ones stand as they are.
func (e *Engine) checkpoint() {
	gen := e.Gen() + 1
	log, err := wal.Make(e.disk, e.regionOf(gen), e.logSize, gen)
	giveUpAt(err)
	giveUpAt(e.shots.Save(e.state.Bytes()))
	e.log = log
}

// regionOf is the first sector of the region to which a generation's log belongs: a new log never goes where the one stands that still counts.
func (e *Engine) regionOf(gen int) int { return (1 - gen%2) * e.logSize }
