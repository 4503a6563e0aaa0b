package wal

import (
	"haulage/api"
	"haulage/disk"
)

// region is a part of a disk; its sectors are counted from 0 on. What the disk refuses is given up by a panic, so that nobody in between has to hand it on.
type region struct {
	disk *disk.Disk
	from int
	size int
}

// attempt is the face of all that is done with a disk: who gives up deep inside does so by a panic with an error's number, and here that is answered.
func attempt(work func()) (err api.Errno) {
	defer func() {
		if why := recover(); why != nil {
			err = why.(api.Errno)
		}
	}()
	work()
	return api.OK
}

// giveUpAt gives up at an error.
func giveUpAt(err api.Errno) {
	if err != api.OK {
		panic(err)
	}
}

// refuseIf gives up where no log can stand.
func refuseIf(wrong bool) {
	if wrong {
		panic(api.ErrWalForm)
	}
}

func (r region) read(i int) sector {
	p, err := r.disk.Read(r.from + i)
	giveUpAt(err)
	return sector(p)
}

func (r region) write(i int, s sector) { giveUpAt(r.disk.Write(r.from+i, s[:])) }

func (r region) sync() { giveUpAt(r.disk.Sync()) }

// begin makes a log without records. The old head goes first, and safely, so that it never stands over a part of its records; the new one comes last for the like reason.
func (r region) begin(gen int) {
	r.wipe(0, 1)
	r.sync()
	r.wipe(1, r.size)
	r.sync()
	r.write(0, formHead(gen))
	r.sync()
}

// wipe writes zeros from one sector on up to another, where there are none yet. All are read ahead of the first write: the disk looks for a sector among all writes that wait.
func (r region) wipe(first, end int) {
	var unclean []int
	for i := first; i < end; i++ {
		if r.read(i) != (sector{}) {
			unclean = append(unclean, i)
		}
	}
	for _, i := range unclean {
		r.write(i, sector{})
	}
}

// lay writes a record's pieces from a sector on.
func (r region) lay(at int, record []byte) {
	for len(record) > mostHeld {
		r.write(at, form(kindPart, record[:mostHeld]))
		record = record[mostHeld:]
		at++
	}
	r.write(at, form(kindLast, record))
}

// records are those that stand behind the head, and the first sector that none of them takes.
func (r region) records() (records [][]byte, used int) {
	used = 1
	var record []byte
	for i := 1; i < r.size; i++ {
		s := r.read(i)
		if !s.whole() {
			break
		}
		record = append(record, s.piece(len(record) > 0)...)
		if s[0] == kindLast {
			records, used = append(records, record), i+1
			record = nil
		}
	}
	return records, used
}

// tidy wipes what is left behind the last record, and has all that was read made safe: what is told now may not be lost later.
func (r region) tidy(used int) {
	r.wipe(used, r.size)
	if r.disk.Pending() > 0 {
		r.sync()
	}
}
