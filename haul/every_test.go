package haul_test

import (
	"fmt"
	"testing"

	"haulage/api"
	"haulage/disk"
	"haulage/engine"
	"haulage/haul"
	"haulage/ledger"
	"haulage/shard"
)

// wordSet are messages by their numbers: a set that can be compared as a whole.
type wordSet [16]uint64

func (set wordSet) has(number int) bool { return set[number/64]>>(number%64)&1 > 0 }

// moment is what a script of few servers and one shard has come to: what stands on each disk, all that was ever said, and what the writes have made.
type moment struct {
	forms [3]string
	said  wordSet
	wrote string
}

// search goes through every script of few servers with one shard, few epochs and few writes, the power going at each place.
type search struct {
	t            *testing.T
	s            api.Setup
	epochs, revs int
	words        []api.Mail
	numbers      map[string]int // of the words
	images       map[string][]byte
	epochsOf     map[string]api.Ledger
}

// number is a word's; a new one has the next.
func (s *search) number(m api.Mail) int {
	text := told([]api.Mail{m})
	n, ok := s.numbers[text]
	if !ok {
		n = len(s.words)
		s.numbers[text], s.words = n, append(s.words, m)
	}
	return n
}

func (s *search) say(set wordSet, said []api.Mail) wordSet {
	for _, m := range said {
		n := s.number(m)
		set[n/64] |= 1 << (n % 64)
	}
	return set
}

func (s *search) all(set wordSet) []api.Mail {
	var all []api.Mail
	for n, m := range s.words {
		if set.has(n) {
			all = append(all, m)
		}
	}
	return all
}

// disk is one on which this state stands.
func (s *search) disk(form string) *disk.Disk {
	s.t.Helper()
	image, ok := s.images[form]
	if !ok {
		image = imageOf(s.t, s.s, 1, []byte(form))
		s.images[form] = image
	}
	return loaded(s.t, image)
}

// at is a server of a moment, with a new Haul.
func (s *search) at(now moment, server int) (*disk.Disk, *engine.Engine, *haul.Haul) {
	s.t.Helper()
	d := s.disk(now.forms[server])
	e := opened(s.t, "a moment", d, server, s.s)
	return d, e, over(s.t, e)
}

// ledgerOf is what a form tells of the shard.
func (s *search) ledgerOf(now moment, server int) api.Ledger {
	l, ok := s.epochsOf[now.forms[server]]
	if !ok {
		_, e, _ := s.at(now, server)
		l, _ = e.Ledger(0)
		s.epochsOf[now.forms[server]] = l
	}
	return l
}

// call is one that a server may have; done tells what the writes have made behind it, if it is a write and is done.
type call struct {
	on   func(e *engine.Engine, h *haul.Haul) ([]api.Mail, api.Errno)
	done string
}

// listen are the calls in which something is heard or said again.
func (s *search) listen(now moment, server int) []call {
	calls := []call{{on: func(e *engine.Engine, h *haul.Haul) ([]api.Mail, api.Errno) { return h.Tick() }}}
	for _, m := range s.all(now.said) {
		if m.To == server {
			calls = append(calls, call{on: func(e *engine.Engine, h *haul.Haul) ([]api.Mail, api.Errno) { return h.Hear(m) }})
		}
	}
	return calls
}

// command are the calls of an operator, and writes.
func (s *search) command(now moment, server int) []call {
	calls := []call{{on: func(e *engine.Engine, h *haul.Haul) ([]api.Mail, api.Errno) { return nil, h.Cancel(0) }}}
	for to := range s.s.Servers {
		calls = append(calls, call{on: func(e *engine.Engine, h *haul.Haul) ([]api.Mail, api.Errno) { return h.Move(0, to) }})
	}
	copied, err := shard.Import([]byte(now.wrote))
	wantErr(s.t, "Import of what was written", err, api.OK)
	if rev := copied.Rev(); rev < s.revs {
		op := put("key", text(1+rev, rev))
		copied.Do(0, 1+rev, op)
		calls = append(calls, call{done: string(copied.Export()), on: func(e *engine.Engine, h *haul.Haul) ([]api.Mail, api.Errno) {
			_, err := e.Do(write(0, 0, 1+rev, op))
			return nil, err
		}})
	}
	return calls
}

// sayAll has all be said that can be said while no state changes. Who has more messages to choose from can do whatever he could with fewer: so this leaves nothing out.
func (s *search) sayAll(now moment) moment {
	s.t.Helper()
	for {
		before := now.said
		for server := range s.s.Servers {
			for _, c := range s.listen(now, server) {
				_, e, h := s.at(now, server)
				if said, err := c.on(e, h); err == api.OK && string(e.Bytes()) == now.forms[server] {
					now.said = s.say(now.said, said)
				}
			}
		}
		if now.said == before {
			return now
		}
	}
}

// outcomes are the moments behind a call: the power stays, or it goes ahead of one of the writes and syncs, and what waits then is lost, kept, or torn.
func (s *search) outcomes(now moment, server int, c call) []moment {
	s.t.Helper()
	var all []moment
	for fuse := 0; ; fuse++ {
		for _, crash := range []func(d *disk.Disk){
			func(d *disk.Disk) { d.Crash(nil, -1, 0) },
			func(d *disk.Disk) { d.Crash([]bool{true}, -1, 0) },
			func(d *disk.Disk) { d.Crash(nil, 0, 63) },
		} {
			d, e, h := s.at(now, server)
			d.Fuse(fuse)
			said, err := c.on(e, h)
			next := now
			if err == errEngDead {
				crash(d)
				e = opened(s.t, "behind a crash", d, server, s.s)
			} else {
				next.said = s.say(now.said, said)
			}
			next.forms[server] = string(e.Bytes())
			if c.done != "" && next.forms[server] != now.forms[server] {
				next.wrote = c.done
			}
			if all = append(all, next); err != errEngDead {
				return all
			}
		}
	}
}

// behind are the moments that may follow, with epochs that are let through.
func (s *search) behind(now moment) []moment {
	s.t.Helper()
	var all []moment
	for server := range s.s.Servers {
		for _, c := range append(s.listen(now, server), s.command(now, server)...) {
			for _, next := range s.outcomes(now, server, c) {
				if next.forms != now.forms && s.ledgerOf(next, server).Epoch <= s.epochs {
					all = append(all, s.sayAll(next))
				}
			}
		}
	}
	return all
}

// check asks for P21.7 and P21.8.
func (s *search) check(now moment) {
	s.t.Helper()
	var row []api.Ledger
	for server := range s.s.Servers {
		row = append(row, s.ledgerOf(now, server))
	}
	holder := ledger.Holder(row)
	if !ledger.Sound(row) || holder != authorOf(row) {
		s.t.Fatalf("%v is not sound", row)
	}
	_, e, _ := s.at(now, holder)
	wantBytes(s.t, fmt.Sprint("the copy at ", row), e.Export(0), []byte(now.wrote))
}

// wantEnds asks for P21.9, what was said ahead of the rounds being heard in the first one, or never.
func (s *search) wantEnds(now moment) {
	s.t.Helper()
	for way := range 4 {
		c := &script{t: s.t, s: s.s, tally: &tally{}, perhaps: []*shard.Shard{nil}}
		wrote, err := shard.Import([]byte(now.wrote))
		wantErr(s.t, "Import of what was written", err, api.OK)
		c.wrote = []*shard.Shard{wrote}
		for server := range s.s.Servers {
			n := &node{server: server}
			n.d, n.e, n.h = s.at(now, server)
			c.nodes = append(c.nodes, n)
		}
		var under []api.Mail
		if way%2 == 1 {
			under = s.all(now.said)
		}
		c.rounds(under, func(n int) int { return (n - 1) * (way / 2) })
		c.wantEnded()
	}
}

// P21.7 to P21.10: every script of two and of three servers with few epochs and writes; each moment is sound, and comes to its end.
func TestEveryScript(t *testing.T) {
	for _, c := range []struct{ servers, epochs, revs, least int }{{2, 4, 2, 700}, {3, 3, 0, 200}} {
		s := &search{t: t, s: setupOf(c.servers, 1), epochs: c.epochs, revs: c.revs, numbers: map[string]int{}, images: map[string][]byte{}, epochsOf: map[string]api.Ledger{}}
		first := moment{wrote: string(emptyCopy())}
		for server := range c.servers {
			first.forms[server] = string(formOf(t, server, c.servers, knownOf(atFirst(0, server, c.servers))))
		}
		seen := map[moment]int{first: 1}
		todo := []moment{first}
		for len(todo) > 0 {
			now := todo[len(todo)-1]
			todo = todo[:len(todo)-1]
			s.check(now)
			s.wantEnds(now)
			for _, next := range s.behind(now) {
				if seen[next]++; seen[next] == 1 {
					todo = append(todo, next)
				}
			}
		}
		if len(seen) < c.least {
			t.Errorf("%d servers: %d moments alone", c.servers, len(seen))
		}
	}
}
