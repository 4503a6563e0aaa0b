package shot

import (
	"haulage/api"
	"haulage/disk"
)

// slot is a part of a disk: a head, and behind it the sectors of a body. What the disk refuses is given up by a panic, so that nobody in between has to hand it on.
type slot struct {
	disk *disk.Disk
	head int // which sector it is
	body int // of how many sectors it is
}

// attempt is the face of all that is done with a disk: who gives up deep inside does so by a panic with an error's number, and here that is answered.
func attempt(work func()) (err api.Errno) {
	defer func() {
		if why := recover(); why != nil {
			err = why.(api.Errno)
		}
	}()
	work()
	return api.OK
}

// giveUpAt gives up at an error.
func giveUpAt(err api.Errno) {
	if err != api.OK {
		panic(err)
	}
}

// read answers a sector of the slot, counted from its head on.
func (p slot) read(i int) sector {
	data, err := p.disk.Read(p.head + i)
	giveUpAt(err)
	return sector(data)
}

func (p slot) write(i int, s sector) { giveUpAt(p.disk.Write(p.head+i, s[:])) }

func (p slot) sync() { giveUpAt(p.disk.Sync()) }

// most is how many bytes the body takes.
func (p slot) most() int { return api.SectorSize * p.body }

// lay lays a snapshot down. The old head goes first, and safely, so that it never stands over a part of the new body, and a new head that is torn has zeros behind it; the new one comes last, so that it counts only when all of its body is there.
func (p slot) lay(gen int, data []byte) {
	if p.read(0) != (sector{}) {
		p.write(0, sector{})
		p.sync()
	}
	p.layBody(data)
	p.sync()
	p.write(0, headOf(gen, data))
	p.sync()
}

func (p slot) layBody(data []byte) {
	for i := 1; len(data) > 0; i++ {
		n := min(len(data), api.SectorSize)
		p.write(i, filled(data[:n]))
		data = data[n:]
	}
}

// snapshot is the generation and the data of what stands in the slot, whichever of the two it is; 0, if nothing does. A head is right if it is just what its generation and the body's data make.
func (p slot) snapshot() (gen int, data []byte) {
	head := p.read(0)
	said, length := head.generation(), head.length()
	if said < 1 || said > api.MaxTime || length > p.most() {
		return 0, nil
	}
	data, clean := p.readBody(length)
	if !clean || head != headOf(int(said), data) {
		return 0, nil
	}
	return int(said), data
}

// readBody answers the first n bytes of the body, and whether zeros alone stand behind them in their last sector.
func (p slot) readBody(n int) (data []byte, clean bool) {
	for i := 1; len(data) < n; i++ {
		s := p.read(i)
		piece := s[:min(n-len(data), api.SectorSize)]
		if s != filled(piece) {
			return nil, false
		}
		data = append(data, piece...)
	}
	return data, true
}
