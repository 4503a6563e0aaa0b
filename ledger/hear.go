package ledger

import "haulage/api"

// Hear: P15.4.
func Hear(server int, l api.Ledger, kind, epoch, from int) (record, reply int) {
	if !Valid(server, l) || !isOther(server, from) {
		return 0, 0
	}
	switch kind {
	case api.MailOffer:
		return onOffer(l, epoch, from)
	case api.MailHave:
		return onHave(l, epoch, from)
	case api.MailCommit:
		return onCommit(l, epoch, from)
	case api.MailMine:
		return endOf(api.Committed, api.RecRelease, l, epoch, from), 0
	case api.MailCancel:
		return endOf(api.Installed, api.RecForget, l, epoch, from), 0
	case api.MailFull:
		return endOf(api.Offered, api.RecCancel, l, epoch, from), 0
	}
	return 0, 0
}

func onOffer(l api.Ledger, epoch, from int) (record, reply int) {
	switch l.Phase {
	case api.Installed:
		if meets(l, epoch, from) {
			return 0, api.MailHave
		}
		fallthrough // what is Installed does not serve yet: a later offer may take its place
	case api.Absent, api.Released:
		if l.Epoch < epoch && epoch < api.MaxEpoch {
			return api.RecInstall, api.MailHave
		}
	}
	return 0, 0
}

func onHave(l api.Ledger, epoch, from int) (record, reply int) {
	switch {
	case l.Phase == api.Offered && meets(l, epoch, from):
		return api.RecCommit, api.MailCommit
	case l.Phase == api.Committed && meets(l, epoch, from):
		return 0, api.MailCommit
	case l.Epoch > epoch:
		return 0, api.MailCancel
	}
	return 0, 0
}

func onCommit(l api.Ledger, epoch, from int) (record, reply int) {
	switch {
	case l.Phase == api.Installed && meets(l, epoch, from):
		return api.RecOwn, api.MailMine
	case l.Phase == api.Installed && l.Epoch == epoch: // it has another's copy of that epoch, and must not answer for this one
		return 0, 0
	case l.Epoch >= epoch:
		return 0, api.MailMine
	}
	return 0, 0
}

// endOf is the record that ends a transfer in this phase, if the message is of that transfer; else none.
func endOf(phase, record int, l api.Ledger, epoch, from int) int {
	if l.Phase == phase && meets(l, epoch, from) {
		return record
	}
	return 0
}

// meets: is a message with this epoch, of this sender, of the transfer that the ledger is in?
func meets(l api.Ledger, epoch, from int) bool { return l.Epoch == epoch && l.Peer == from }
