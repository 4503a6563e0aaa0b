package mail

import (
	"haulage/api"
	"haulage/table"
)

// isSoundKind asks for what the message's kind has, and that it has nothing else.
func isSoundKind(m api.Mail) bool {
	switch m.Kind {
	case api.MailRequest:
		return isClient(m.Client, m.From) && isServer(m.To) && isSeq(m.Seq) && table.Right(m.Op) && hasNoVerdict(m) && hasNoTransfer(m)
	case api.MailReply:
		return isServer(m.From) && isClient(m.Client, m.To) && isSeq(m.Seq) && isBlankOp(m.Op) && isSoundVerdict(m) && hasNoTransfer(m)
	case api.MailOffer:
		if len(m.Copy) > api.MaxCopy {
			return false
		}
		m.Root, m.Copy = 0, nil // these an offer has more than the others of the handshake
		fallthrough
	case api.MailHave, api.MailCommit, api.MailMine, api.MailCancel, api.MailFull:
		return isServer(m.From) && isServer(m.To) && m.From != m.To && isWithin(m.Epoch, 1, api.MaxEpoch) && hasNoCopy(m) && hasNoCall(m)
	}
	return false
}

// isSoundVerdict asks from the verdict of which most is asked to that of which least is: an answer that is blank is fit.
func isSoundVerdict(m api.Mail) bool {
	switch m.Verdict {
	case api.ErrWrongOwner, api.ErrFrozen:
		if !isServer(m.Hint) {
			return false
		}
		m.Hint = 0
		fallthrough
	case api.ErrLogFull, api.ErrDiskFull:
		if !isBlankAnswer(m.Answer) {
			return false
		}
		fallthrough
	case api.OK:
		return isFit(m.Answer) && m.Hint == 0
	}
	return false
}

// hasNoTransfer says whether all is blank that the handshake alone has.
func hasNoTransfer(m api.Mail) bool { return m.Epoch == 0 && hasNoCopy(m) }

// hasNoCopy says whether all is blank that offers alone have.
func hasNoCopy(m api.Mail) bool { return m.Root == 0 && len(m.Copy) == 0 }

// hasNoCall says whether all is blank that requests and replies alone have.
func hasNoCall(m api.Mail) bool {
	return m.Client == 0 && m.Seq == 0 && isBlankOp(m.Op) && hasNoVerdict(m)
}

// hasNoVerdict says whether all is blank that replies alone have.
func hasNoVerdict(m api.Mail) bool {
	return m.Verdict == api.OK && isBlankAnswer(m.Answer) && m.Hint == 0
}

func isFit(a api.Answer) bool {
	if len(a.Key) == 0 && (len(a.Value) > 0 || a.Rev != 0) {
		return false
	}
	return len(a.Key) <= api.MaxKey && len(a.Value) <= api.MaxValue && isWithin(a.At, 0, api.MaxRev) && isWithin(a.Rev, 0, a.At)
}

func isBlankOp(op api.Op) bool {
	return op.Kind == 0 && len(op.Key) == 0 && len(op.Value) == 0 && op.Rev == 0
}

func isBlankAnswer(a api.Answer) bool {
	return !a.Done && len(a.Key) == 0 && len(a.Value) == 0 && a.Rev == 0 && a.At == 0
}

// isClient: is there such a client, and is this its name?
func isClient(client, name int) bool {
	return isWithin(client, 0, api.MaxClients-1) && name == api.FirstClient+client
}

// isServer: is it a server's number, which is its name, too?
func isServer(n int) bool { return isWithin(n, 0, api.MaxServers-1) }

func isSeq(n int) bool { return isWithin(n, 1, api.MaxSeq) }

func isWithin(n, least, most int) bool { return n >= least && n <= most }
