package ledger

import "haulage/api"

// Holder: P15.6.
func Holder(row []api.Ledger) int {
	holder, several := -1, false
	for server, l := range row {
		if !claims(l) {
			continue
		}
		switch {
		case holder < 0 || outranks(l, row[holder]):
			holder, several = server, false
		case !outranks(row[holder], l):
			several = true
		}
	}
	if several {
		return -1
	}
	return holder
}

// outranks: of two that claim the shard, does the first leave the second no part in it?
func outranks(a, b api.Ledger) bool {
	return a.Epoch > b.Epoch || a.Epoch == b.Epoch && Serves(a) && !Serves(b)
}

// Sound: P15.7. How long the row is need not be asked: an empty one has no Holder, and behind MaxServers no ledger is sound.
func Sound(row []api.Ledger) bool {
	for server, l := range row {
		if !Valid(server, l) || l.Peer >= len(row) {
			return false
		}
	}
	holder := Holder(row)
	if holder < 0 {
		return false
	}
	for server, l := range row {
		if l.Epoch > row[holder].Epoch || !agrees(row, holder, server) {
			return false
		}
	}
	return true
}

// agrees: does the server's ledger go together with the Holder, and with its peer's?
func agrees(row []api.Ledger, holder, server int) bool {
	l := row[server]
	peer := row[l.Peer]
	switch l.Phase {
	case api.Owned, api.Offered:
		return server == holder
	case api.Committed:
		if peer.Epoch == l.Epoch {
			return server == holder || peer.Phase != api.Installed
		}
		return peer.Epoch > l.Epoch
	case api.Installed:
		if peer.Epoch == l.Epoch { // an Owned Holder is its own peer: this one's it is only in Offered and Committed
			return l.Peer == holder && peer.Peer == server
		}
		return peer.Epoch > l.Epoch
	}
	return true
}
