package shot_test

import (
	"testing"

	"haulage/api"
	"haulage/shot"
)

// P12.2, P12.3, P0.1: each call of a nil object.
func TestNilShots(t *testing.T) {
	var s *shot.Shots
	for _, n := range []int{0, 1, 64, 65, 100000} {
		wantErr(t, "Save", s.Save(make([]byte, n)), api.ErrNil)
	}
	wantErr(t, "Save(nil)", s.Save(nil), api.ErrNil)
	wantShots(t, "a nil object", s, 0, 0)
}

// P0.1: an object that Open did not make ends each call without a panic.
func TestShotsOfNothing(t *testing.T) {
	for _, n := range []int{0, 1, 64, 65} {
		s := &shot.Shots{}
		for range 2 {
			if err := s.Save(make([]byte, n)); err == api.OK {
				t.Fatal("an object without a disk took something")
			}
			wantShots(t, "an object of nothing", s, 0, 0)
		}
	}
}
