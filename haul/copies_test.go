package haul_test

import (
	"fmt"
	"slices"
	"testing"

	"haulage/api"
	"haulage/shard"
)

// free are ledgers of server 1 that an offer of epoch 5 finds ready to install.
func free() []api.Ledger { return []api.Ledger{absent(0), released(4, 2), installed(4, 0)} }

// wantNoInstall asks that an offer brings nothing and changes nothing.
func wantNoInstall(t *testing.T, what string, m api.Mail) {
	t.Helper()
	for _, l := range free() {
		p := pairOf(t, 1, 3, known{l, copyOf(3)})
		before, image := tale(p.e), p.d.Image()
		said, err := p.hear(m)
		wantSaid(t, what, said, err)
		wantText(t, what, tale(p.e), before)
		wantBytes(t, what, p.d.Image(), image)
	}
}

// P21.3: an offer whose Copy is no form of a sound shard: beginnings, bytes more, each byte turned; under the root of what it was, and under 0.
func TestCopiesThatAreNone(t *testing.T) {
	whole := copyOf(4)
	var odd [][]byte
	for n := range whole {
		odd = append(odd, whole[:n])
		for _, by := range []byte{1, 2, 0x80, 0xFF} {
			p := slices.Clone(whole)
			p[n] ^= by
			if _, err := shard.Import(p); err != api.OK {
				odd = append(odd, p)
			}
		}
	}
	odd = append(odd, append(slices.Clone(whole), 0), []byte{2, 0, 0}, []byte{2, 0, 0, 0, 0}, []byte(text(300, 1)))
	if len(odd) < 100 {
		t.Fatalf("%d copies alone", len(odd))
	}
	for _, p := range odd {
		for _, root := range []uint64{0, rootOf(t, whole)} {
			m := plain(api.MailOffer, 2, 1, 0, 5)
			m.Copy, m.Root = p, root
			wantNoInstall(t, fmt.Sprint("a copy that is none: ", p), m)
		}
	}
}

// P21.3: an offer whose Root is another: each bit of it, 0, and the roots of other copies; and other copies under that root.
func TestOtherRoots(t *testing.T) {
	right := offerOf(t, 2, 1, 0, 5, copyOf(4))
	for bit := range 64 {
		m := right
		m.Root ^= 1 << bit
		wantNoInstall(t, fmt.Sprint("bit ", bit), m)
	}
	for _, root := range []uint64{0, 1, ^right.Root, rootOf(t, emptyCopy()), rootOf(t, copyOf(3)), rootOf(t, copyOf(5))} {
		m := right
		m.Root = root
		wantNoInstall(t, "another root", m)
	}
	turned := 0
	for n := range right.Copy {
		for by := 1; by < 256; by++ {
			m := right
			m.Copy = slices.Clone(right.Copy)
			m.Copy[n] ^= byte(by)
			if _, err := shard.Import(m.Copy); err == api.OK && turned%16 == 0 {
				wantNoInstall(t, "another copy", m)
			}
			turned++
		}
	}
}

// P21.3: copies that are right, of few rows and of many.
func TestRightCopies(t *testing.T) {
	for n := range 30 {
		for _, l := range free() {
			p := pairOf(t, 1, 3, known{l, copyOf(3)})
			said, err := p.hear(offerOf(t, 2, 1, 0, 5, copyOf(n)))
			wantSaid(t, "a right copy", said, err, plain(api.MailHave, 1, 2, 0, 5))
			wantLedger(t, "a right copy", p.e, 0, installed(5, 2))
			wantBytes(t, "a right copy", p.e.Export(0), copyOf(n))
		}
	}
}

// P21.3: where an offer calls for no record, nobody asks what its copy is: MailHave is said again.
func TestCopiesNobodyAsksFor(t *testing.T) {
	for _, turn := range []func(m *api.Mail){
		func(m *api.Mail) { m.Root++ },
		func(m *api.Mail) { m.Copy = nil },
		func(m *api.Mail) { m.Copy = m.Copy[:2] },
		func(m *api.Mail) { m.Copy = copyOf(9) },
		func(m *api.Mail) { m.Copy = make([]byte, maxCopy) },
	} {
		p := pairOf(t, 1, 3, known{installed(5, 2), copyOf(3)})
		before := tale(p.e)
		m := offerOf(t, 2, 1, 0, 5, copyOf(3))
		turn(&m)
		said, err := p.hear(m)
		wantSaid(t, short(m), said, err, plain(api.MailHave, 1, 2, 0, 5))
		wantText(t, short(m), tale(p.e), before)
	}
	p := pairOf(t, 1, 3, known{installed(5, 2), copyOf(3)})
	m := offerOf(t, 2, 1, 0, 5, copyOf(3))
	m.Copy = make([]byte, maxCopy+1)
	said, err := p.hear(m)
	wantSaid(t, "a copy that is too long, so that the message is not sound", said, err)
}
