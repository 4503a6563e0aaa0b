package mail

import (
	"haulage/api"
	"haulage/parcel"
)

const sizeOfRoot = 8

// hand either lays pieces down, out of the fields that it is shown, or takes them up into them: so a form is read just as it is laid down.
type hand interface {
	byte(n *int)
	flag(is *bool)
	num(n *int)
	root(n *uint64)
	text(p *[]byte)
}

// goOver shows a hand all of a message that has a place in its form, in the order of the form.
func goOver(m *api.Mail, h hand) {
	h.byte(&m.Kind)
	h.byte(&m.From)
	h.byte(&m.To)
	h.num(&m.Shard)
	switch m.Kind {
	case api.MailRequest:
		h.num(&m.Seq)
		goOverOp(&m.Op, h)
	case api.MailReply:
		h.num(&m.Seq)
		verdict := int(m.Verdict)
		h.num(&verdict)
		m.Verdict = api.Errno(verdict)
		goOverVerdict(m, h)
	case api.MailOffer:
		h.num(&m.Epoch)
		h.root(&m.Root)
		h.text(&m.Copy)
	default:
		h.num(&m.Epoch)
	}
}

func goOverOp(op *api.Op, h hand) {
	h.byte(&op.Kind)
	h.text(&op.Key)
	switch op.Kind {
	case api.OpPut:
		h.text(&op.Value)
	case api.OpSwap:
		h.text(&op.Value)
		h.num(&op.Rev)
	}
}

// goOverVerdict shows what stands behind the verdict.
func goOverVerdict(m *api.Mail, h hand) {
	switch m.Verdict {
	case api.OK:
		h.flag(&m.Answer.Done)
		h.text(&m.Answer.Key)
		h.text(&m.Answer.Value)
		h.num(&m.Answer.Rev)
		h.num(&m.Answer.At)
	case api.ErrWrongOwner, api.ErrFrozen:
		h.byte(&m.Hint)
	}
}

// layer is the hand that lays down.
type layer struct{ to *parcel.Writer }

func (l layer) byte(n *int) { l.to.Byte(*n) }

func (l layer) flag(is *bool) {
	if *is {
		l.to.Byte(1)
	} else {
		l.to.Byte(0)
	}
}

func (l layer) num(n *int) { l.to.Num(uint64(*n)) }

func (l layer) root(n *uint64) { l.to.Fixed(*n, sizeOfRoot) }

func (l layer) text(p *[]byte) { l.to.Text(*p) }

// taker is the hand that takes up. What it takes may be no sound message's; odd is what it can't put into a field.
type taker struct {
	from *parcel.Reader
	odd  bool
}

func (t *taker) byte(n *int) { *n = t.from.Byte() }

func (t *taker) flag(is *bool) {
	n := t.from.Byte()
	*is = n == 1
	t.odd = n > 1
}

func (t *taker) num(n *int) { *n = int(t.from.Num()) } // a number beyond all ints comes out below 0, which is sound nowhere

func (t *taker) root(n *uint64) { *n = t.from.Fixed(sizeOfRoot) }

func (t *taker) text(p *[]byte) { *p = t.from.Text(api.MaxMail) }

// read takes up all that stands ahead of the sum, and says whether it is laid down as a message's pieces are.
func read(body []byte) (api.Mail, bool) {
	t := &taker{from: parcel.Read(body)}
	m := api.Mail{}
	goOver(&m, t)
	switch m.Kind { // the client stands in its name alone
	case api.MailRequest:
		m.Client = m.From - api.FirstClient
	case api.MailReply:
		m.Client = m.To - api.FirstClient
	}
	return m, !t.odd && t.from.Done() == api.OK
}
