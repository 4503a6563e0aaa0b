package shot_test

import (
	"bytes"
	"testing"

	"haulage/api"
)

// P12.1 to P12.3: the rows of "Examples", one behind the other on one disk.
func TestExamples(t *testing.T) {
	d := fresh(t, 8)
	s := opened(t, "a new disk", d, 0, 4, 0, nil)
	wantNum(t, "Most", s.Most(), 192)
	wantErr(t, "Save(1 2 3)", s.Save([]byte{1, 2, 3}), api.OK)
	wantNum(t, "Gen", s.Gen(), 1)
	opened(t, "behind Save(1 2 3)", d, 0, 4, 1, []byte{1, 2, 3})

	image := d.Image()
	wantBytes(t, "bytes 0 to 19", image[:20], []byte{83, 72, 79, 84, 0, 0, 0, 0, 0, 0, 0, 1, 0, 0, 0, 3, 241, 48, 242, 30})
	wantBytes(t, "bytes 63 to 67", image[63:68], []byte{165, 1, 2, 3, 0})

	wantErr(t, "Save(nothing)", s.Save(nil), api.OK)
	wantNum(t, "byte 256 + 11", int(d.Image()[256+11]), 2)
	opened(t, "behind Save(nothing)", d, 0, 4, 2, nil)

	sevens := bytes.Repeat([]byte{7}, 193)
	wantErr(t, "Save(193 bytes)", s.Save(sevens), api.ErrShotRoom)
	wantErr(t, "Save(192 bytes)", s.Save(sevens[:192]), api.OK)
	wantNum(t, "Gen", s.Gen(), 3)
	wantNum(t, "slot 0", int(d.Image()[11]), 3)

	d.Fuse(0)
	wantErr(t, "Save(5) without power", s.Save([]byte{5}), api.ErrDiskPower)
	d.Fuse(-1)
	wantErr(t, "Save(5) behind it", s.Save([]byte{5}), api.ErrDiskPower)
	opened(t, "behind it", d, 0, 4, 3, sevens[:192])

	wantNotOpened(t, nil, 0, 4, api.ErrNil)
	wantNotOpened(t, d, 1, 4, api.ErrArg)
	wantNotOpened(t, d, -1, 4, api.ErrArg)
	wantNotOpened(t, d, 0, 1, api.ErrArg)
}
