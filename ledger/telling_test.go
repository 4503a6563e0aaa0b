package ledger_test

import (
	"slices"

	"haulage/api"
)

// A second telling of the chapter's rules, as near to its words as can be, against which the package is held.

func toldServer(n int) bool { return 0 <= n && n <= 7 }

func toldValid(server int, l api.Ledger) bool {
	const absent, owned, offered = 0, 1, 2
	for _, holds := range []bool{
		toldServer(server),
		0 <= l.Phase && l.Phase <= 5,
		0 <= l.Epoch && l.Epoch <= maxEpoch,
		toldServer(l.Peer),
		l.Phase != owned || l.Peer == server,
		l.Phase == owned || l.Peer != server,
		l.Phase != absent || l.Epoch == 0,
		l.Phase == absent || l.Phase == owned || l.Epoch >= 1,
		l.Phase != offered || l.Epoch != maxEpoch,
	} {
		if !holds {
			return false
		}
	}
	return true
}

// stepLine is a line of P15.3's table.
type stepLine struct {
	phases []int
	epoch  func(own, said int) bool
	peer   func(server, said int) bool
	then   func(server int, l api.Ledger, r api.Record) api.Ledger
}

func stepLines() map[int]stepLine {
	anyEpoch := func(own, said int) bool { return true }
	anyPeer := func(server, said int) bool { return true }
	another := func(server, said int) bool { return toldServer(said) && said != server }
	phase := func(phase int) func(int, api.Ledger, api.Record) api.Ledger {
		return func(server int, l api.Ledger, r api.Record) api.Ledger {
			return api.Ledger{Phase: phase, Epoch: l.Epoch, Peer: l.Peer}
		}
	}
	return map[int]stepLine{
		1: {[]int{1}, anyEpoch, anyPeer, phase(1)},
		2: {[]int{1}, func(own, said int) bool { return own <= maxEpoch-2 }, another,
			func(server int, l api.Ledger, r api.Record) api.Ledger { return offered(l.Epoch+1, r.Peer) }},
		3: {[]int{2}, anyEpoch, anyPeer,
			func(server int, l api.Ledger, r api.Record) api.Ledger { return owned(l.Epoch+1, server) }},
		4: {[]int{0, 5, 4}, func(own, said int) bool { return said > own && said < maxEpoch }, another,
			func(server int, l api.Ledger, r api.Record) api.Ledger { return installed(r.Epoch, r.Peer) }},
		5: {[]int{2}, anyEpoch, anyPeer, phase(3)},
		6: {[]int{4}, anyEpoch, anyPeer,
			func(server int, l api.Ledger, r api.Record) api.Ledger { return owned(l.Epoch, server) }},
		7: {[]int{3}, anyEpoch, anyPeer, phase(5)},
		8: {[]int{4}, anyEpoch, anyPeer, phase(5)},
	}
}

func toldStep(lines map[int]stepLine, server int, l api.Ledger, r api.Record) (api.Ledger, api.Errno) {
	line, ok := lines[r.Kind]
	switch {
	case !ok || !toldValid(server, l):
		return api.Ledger{}, 2
	case !slices.Contains(line.phases, l.Phase):
		return api.Ledger{}, 150
	case !line.epoch(l.Epoch, r.Epoch):
		return api.Ledger{}, 151
	case !line.peer(server, r.Peer):
		return api.Ledger{}, 152
	}
	return line.then(server, l, r), 0
}

// heard is what P15.4 says of one message at one ledger.
type heard struct{ record, reply int }

func toldHear(server int, l api.Ledger, kind, epoch, from int) heard {
	if !toldValid(server, l) || !toldServer(from) || from == server {
		return heard{}
	}
	same, below, above, peer := l.Epoch == epoch, l.Epoch < epoch, l.Epoch > epoch, l.Peer == from
	in := func(phases ...int) bool { return slices.Contains(phases, l.Phase) }
	for _, rule := range []struct {
		kind int
		when bool
		then heard
	}{
		{3, in(0, 5, 4) && below && epoch < maxEpoch, heard{4, 4}},
		{3, in(4) && same && peer, heard{0, 4}},
		{4, in(2) && same && peer, heard{5, 5}},
		{4, in(3) && same && peer, heard{0, 5}},
		{4, above, heard{0, 7}},
		{5, in(4) && same && peer, heard{6, 6}},
		{5, in(4) && same && !peer, heard{0, 0}},
		{5, same || above, heard{0, 6}},
		{6, in(3) && same && peer, heard{7, 0}},
		{7, in(4) && same && peer, heard{8, 0}},
		{8, in(2) && same && peer, heard{3, 0}},
	} {
		if rule.kind == kind && rule.when {
			return rule.then
		}
	}
	return heard{}
}

func toldHolder(all []api.Ledger) int {
	var left []int
	for i, l := range all {
		if l.Phase == 1 || l.Phase == 2 || l.Phase == 3 {
			left = append(left, i)
		}
	}
	keep := func(which func(l api.Ledger) bool) []int {
		var kept []int
		for _, i := range left {
			if which(all[i]) {
				kept = append(kept, i)
			}
		}
		return kept
	}
	if len(left) > 0 {
		greatest := all[left[0]].Epoch
		for _, i := range left {
			greatest = max(greatest, all[i].Epoch)
		}
		left = keep(func(l api.Ledger) bool { return l.Epoch == greatest })
	}
	if serving := keep(func(l api.Ledger) bool { return l.Phase == 1 }); len(serving) > 0 {
		left = serving
	}
	if len(left) != 1 {
		return -1
	}
	return left[0]
}

func toldSound(all []api.Ledger) bool {
	if len(all) < 1 || len(all) > 8 {
		return false
	}
	for i, l := range all {
		if !toldValid(i, l) || l.Peer >= len(all) {
			return false
		}
	}
	h := toldHolder(all)
	if h < 0 {
		return false
	}
	for i, l := range all {
		peer := all[l.Peer]
		sameAsPeer := peer.Epoch == l.Epoch
		for _, broken := range []bool{
			l.Epoch > all[h].Epoch,
			(l.Phase == 1 || l.Phase == 2) && i != h,
			l.Phase == 3 && peer.Epoch < l.Epoch,
			l.Phase == 3 && i != h && peer.Phase == 4 && sameAsPeer,
			l.Phase == 4 && peer.Epoch < l.Epoch,
			l.Phase == 4 && sameAsPeer && l.Peer != h,
			l.Phase == 4 && sameAsPeer && peer.Phase != 2 && peer.Phase != 3,
			l.Phase == 4 && sameAsPeer && peer.Peer != i,
		} {
			if broken {
				return false
			}
		}
	}
	return true
}
