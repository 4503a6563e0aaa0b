package server_test

import (
	"fmt"
	"slices"
	"testing"

	"haulage/api"
	"haulage/parcel"
	"haulage/seal"
)

// summed are bytes with their sum behind them, by chapter 19's words.
func summed(t *testing.T, p []byte) []byte {
	t.Helper()
	w := parcel.New(len(p) + 4)
	w.Fixed(uint64(seal.CRC(p)), 4)
	sum, err := w.Done()
	wantErr(t, "a sum", err, api.OK)
	return append(slices.Clone(p), sum...)
}

// wantDeaf asks that a server passes over what it hears, with nothing done.
func wantDeaf(t *testing.T, what string, p *pair, data []byte) {
	t.Helper()
	before := countsOf(p.d, false)
	said, err := p.hearData(what, data)
	wantSent(t, what, said, err)
	if now := countsOf(p.d, false); now != before {
		t.Fatalf("%s: the disk: %v, it was %v", what, now, before)
	}
	wantText(t, what+": Deeds", toldDeeds(p.deeds()), toldDeeds(nil))
}

// P22.2: bytes that are no message's form: none, few, forms cut off or gone on with, each byte of them turned, far too many.
func TestNoMessage(t *testing.T) {
	p := pairOf(t, 1, 3, knownOf(owned(4, 1), offered(5, 2), installed(5, 2))...)
	request := form(t, ask(1, 3, 1, 0, put(keyOf(0, 3, 0), "1")))
	have := form(t, plain(4, 2, 1, 1, 5))
	for _, data := range [][]byte{nil, {}, {0}, {1, 2, 3}, make([]byte, 7), make([]byte, 8), summed(t, nil), summed(t, []byte{9, 2, 1, 0, 0, 0, 0, 0}), make([]byte, maxMail), make([]byte, maxMail+1)} {
		wantDeaf(t, fmt.Sprint(len(data), " bytes"), p, data)
	}
	for _, right := range [][]byte{request, have} {
		for i := range right {
			wantDeaf(t, "a form that is cut off", p, right[:i])
			for _, by := range []byte{1, 2, 16, 128, 255} {
				turned := slices.Clone(right)
				turned[i] ^= by
				wantDeaf(t, "a form that is turned", p, turned)
			}
		}
		wantDeaf(t, "a form and a byte", p, append(slices.Clone(right), 0))
		body := right[:len(right)-4]
		wantDeaf(t, "a shorter one, summed", p, summed(t, body[:len(body)-1]))
		wantDeaf(t, "a longer one, summed", p, summed(t, append(slices.Clone(body), 0)))
	}
	wantDeaf(t, "an epoch of 0", p, summed(t, []byte{4, 2, 1, 1, 0}))
	wantDeaf(t, "a seq of 0", p, summed(t, []byte{1, 103, 1, 0, 0, 5, 0}))
	wantDeaf(t, "a client that there is not", p, summed(t, []byte{1, 116, 1, 0, 1, 5, 0}))
	wantDeaf(t, "a client's name as who is asked", p, summed(t, []byte{1, 103, 101, 0, 1, 5, 0}))
	wantDeaf(t, "a server from itself", p, summed(t, []byte{4, 1, 1, 1, 5}))
	long := offerOf(t, 2, 1, 2, 6, emptyCopy())
	long.Copy = make([]byte, maxCopy)
	wantDeaf(t, "a copy that is none", p, form(t, long))
}

// P22.2: messages of each kind To another server; a reply is To a client, also one whose number is the server's.
func TestToAnother(t *testing.T) {
	for number := range 3 {
		row := knownOf(owned(4, number), offered(5, (number+1)%3), committed(5, (number+1)%3), installed(5, (number+1)%3))
		p := pairOf(t, number, 3, row...)
		for to := range maxServers {
			if to == number {
				continue
			}
			wantDeaf(t, "a request To another", p, form(t, ask(to, 3, 1, 0, seek(""))))
			wantDeaf(t, "a request To another", p, form(t, ask(to, number, 1, 0, put(keyOf(0, 4, 0), "1"))))
			for shard := range row {
				for kind := 4; kind <= 8; kind++ {
					wantDeaf(t, "a message To another", p, form(t, plain(kind, (to+1)%3, to, shard, 5))[:])
				}
			}
		}
		for client := range maxClients {
			for _, verdict := range []api.Errno{api.OK, errLogFull, errDiskFull, errWrongOwner, errFrozen} {
				for from := range maxServers {
					wantDeaf(t, "a reply", p, form(t, refused(ask(from, client, 1, 0, seek("")), verdict, 0)))
				}
			}
		}
	}
}

// P22.2: each message of the handshake at each ledger, with epochs around its own, from each server, of each shard and one beyond: in lockstep with the telling.
func TestHandshakeEverywhere(t *testing.T) {
	heard := [9]int{}
	for _, l := range []api.Ledger{owned(4, 1), offered(5, 2), committed(5, 2), installed(5, 2), installed(5, 0), released(5, 2), owned(maxEpoch, 1), installed(maxEpoch-1, 2)} {
		p := pairOf(t, 1, 3, known{l, copyOf(3)}, known{absent(0), nil})
		image := p.d.Image()
		for kind := 3; kind <= 8; kind++ {
			for _, epoch := range []int{1, l.Epoch - 1, l.Epoch, l.Epoch + 1, maxEpoch} {
				for _, from := range []int{0, 2, 3, 7} {
					for shard := range 3 {
						if epoch > maxEpoch {
							continue
						}
						m := plain(kind, from, 1, shard, epoch)
						if kind == 3 {
							m = offerOf(t, from, 1, shard, epoch, copyOf(5))
						}
						said, err := p.hear(m)
						wantErr(t, short(m), err, api.OK)
						heard[kind] += len(said)
						if slices.Equal(p.d.Image(), image) {
							continue
						}
						p = pairOver(t, p.s, 1, image)
					}
				}
			}
		}
	}
	for kind, n := range heard {
		if wanted := kind >= 3 && kind <= 5; wanted != (n > 10) {
			t.Errorf("kind %d: %d letters", kind, n)
		}
	}
}

// P22.2: offers whose copy is none, or has another root, are passed over; one for which there is no room is answered by MailFull.
func TestOffersThatAreRefused(t *testing.T) {
	p := pairOf(t, 1, 3, knownOf(released(4, 2))...)
	wrong := offerOf(t, 2, 1, 0, 5, copyOf(3))
	wrong.Root++
	wantDeaf(t, "another root", p, form(t, wrong))
	wrong = offerOf(t, 2, 1, 0, 5, copyOf(3))
	wrong.Copy = wrong.Copy[1:]
	wantDeaf(t, "a copy that is none", p, form(t, wrong))
	p.wantHeard(offerOf(t, 2, 1, 0, 5, copyOfSize(t, 1400)), plain(8, 1, 2, 0, 5))
	wantLedger(t, "no room", p.o, 0, released(4, 2))
	p.wantHeard(offerOf(t, 2, 1, 0, 5, copyOfSize(t, 1300)), plain(4, 1, 2, 0, 5))
	wantLedger(t, "room", p.o, 0, installed(5, 2))
	wantBytes(t, "the copy", p.o.Export(0), copyOfSize(t, 1300))
}

// P22.2: what the handshake asks for does not count among the loads, and is no deed.
func TestHandshakeIsNoLoad(t *testing.T) {
	p := pairOf(t, 1, 3, known{released(4, 2), nil})
	p.wantHeard(offerOf(t, 2, 1, 0, 5, copyOf(9)), plain(4, 1, 2, 0, 5))
	p.wantHeard(plain(5, 2, 1, 0, 5), plain(6, 1, 2, 0, 5))
	wantLedger(t, "behind it", p.o, 0, owned(5, 1))
	wantLoads(t, "behind it", p.o, 0)
	wantDeeds(t, "behind it", p.o)
}
