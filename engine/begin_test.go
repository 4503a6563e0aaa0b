package engine

import (
	"bytes"
	"testing"

	"haulage/api"
	"haulage/disk"
	"haulage/state"
)

// P18.1: a first state that is longer than Most. No slot that Open lets through is so small; so it is asked of what stands behind Open.
func TestFirstStateTooLong(t *testing.T) {
	for shards := 1; shards <= api.MaxShards; shards++ {
		for slot := 2; slot <= 14; slot++ {
			d, _ := disk.New(100)
			s := api.Setup{Servers: 1, Shards: shards, Layout: api.Layout{Log: 24, Shot: slot}}
			first, _ := state.New(0, 1, shards)
			wanted := api.OK
			if first.Size() > 64*(slot-1) {
				wanted = api.ErrDiskFull
			}
			e := &Engine{disk: d, logSize: 24}
			if err := e.attempt(func() { e.find(0, s) }); err != wanted {
				t.Fatalf("%d bytes into %d sectors: error %d, want %d", first.Size(), slot-1, err, wanted)
			}
			if wanted == api.OK {
				continue
			}
			writes, syncs := d.Counts()
			if writes+syncs > 0 || !bytes.Equal(d.Image(), make([]byte, 6400)) || e.Bytes() != nil {
				t.Fatalf("%d bytes into %d sectors: something was written", first.Size(), slot-1)
			}
		}
	}
}
