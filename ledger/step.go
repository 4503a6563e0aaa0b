package ledger

import "haulage/api"

// Step: P15.3.
func Step(server int, l api.Ledger, r api.Record) (api.Ledger, api.Errno) {
	if err := refusal(server, l, r); err != api.OK {
		return api.Ledger{}, err
	}
	return behind(server, l, r), api.OK
}

// refusal asks in the order in which the errors are to be found.
func refusal(server int, l api.Ledger, r api.Record) api.Errno {
	switch {
	case !Valid(server, l) || r.Kind < api.RecWrite || r.Kind > api.RecForget:
		return api.ErrArg
	case !hasPlace(l.Phase, r.Kind):
		return api.ErrLedgerPhase
	case !epochMayBe(l, r):
		return api.ErrLedgerEpoch
	case !peerMayBe(server, r):
		return api.ErrLedgerPeer
	}
	return api.OK
}

func hasPlace(phase, kind int) bool {
	switch kind {
	case api.RecWrite, api.RecOffer:
		return phase == api.Owned
	case api.RecCancel, api.RecCommit:
		return phase == api.Offered
	case api.RecInstall:
		return phase == api.Absent || phase == api.Released || phase == api.Installed
	case api.RecOwn, api.RecForget:
		return phase == api.Installed
	}
	return phase == api.Committed // of the eight kinds RecRelease is left
}

func epochMayBe(l api.Ledger, r api.Record) bool {
	switch r.Kind {
	case api.RecOffer:
		return l.Epoch <= api.MaxEpoch-2 // one for the offer, and one for its Cancel
	case api.RecInstall:
		return r.Epoch > l.Epoch && r.Epoch < api.MaxEpoch
	}
	return true
}

func peerMayBe(server int, r api.Record) bool {
	if r.Kind == api.RecOffer || r.Kind == api.RecInstall {
		return isOther(server, r.Peer)
	}
	return true
}

// behind is the ledger when a record is done that was not refused.
func behind(server int, l api.Ledger, r api.Record) api.Ledger {
	switch r.Kind {
	case api.RecOffer:
		return api.Ledger{Phase: api.Offered, Epoch: l.Epoch + 1, Peer: r.Peer}
	case api.RecCancel:
		return api.Ledger{Phase: api.Owned, Epoch: l.Epoch + 1, Peer: server}
	case api.RecInstall:
		return api.Ledger{Phase: api.Installed, Epoch: r.Epoch, Peer: r.Peer}
	case api.RecCommit:
		l.Phase = api.Committed
	case api.RecOwn:
		l.Phase, l.Peer = api.Owned, server
	case api.RecRelease, api.RecForget:
		l.Phase = api.Released
	}
	return l
}
