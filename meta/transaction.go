package meta

import (
	"rookery/api"
	"rookery/model"
	"rookery/slots"
	"slices"
	"strings"
)

// transaction is one that waits. Only the first one has votes.
type transaction struct {
	id    api.Id
	op    api.Op
	votes map[int]api.Errno // by slots
	ended map[int]struct{}  // slots
	data  string
}

// begin lets a transaction wait behind all others, unless it was answered, or waits.
func (m *Machine) begin(c api.Command) api.Reply {
	if model.Check(c.Op) != api.OK || !isOfMany(c.Op) {
		return answer(api.ErrArg)
	}
	r, e := m.table.Find(c.Id)
	switch {
	case e == api.OK:
		return r
	case e != api.ErrNone:
		return answer(e)
	}
	if e := m.refuses(c.Id); e != api.OK {
		return answer(e)
	}
	m.waiting = append(m.waiting, transaction{
		id:    c.Id,
		op:    keptOp(c.Op),
		votes: map[int]api.Errno{},
		ended: map[int]struct{}{},
	})
	return api.Reply{Err: api.ErrBusy, At: m.answered + len(m.waiting)}
}

// refuses is why no transaction of that id may begin as long as others wait, if so.
func (m *Machine) refuses(id api.Id) api.Errno {
	sessions := m.table.Len() // that the table will have once all that wait are answered
	for _, t := range m.waiting {
		if t.id.Session == id.Session {
			return earlier(t.id.Seq, id.Seq)
		}
		lowest := api.Id{Session: t.id.Session, Seq: 1} // no note of it is only where none of the session is
		if _, e := m.table.Find(lowest); e == api.ErrNone {
			sessions++
		}
	}
	if sessions >= api.MaxOpen { // it is so, too, if 64 wait, as no two of them are of one session
		return api.ErrFull
	}
	return api.OK
}

// earlier is why what a session asks must wait for what it asked last, or comes too late.
func earlier(last, seq int) api.Errno {
	if last > seq {
		return api.ErrOld
	}
	return api.ErrBusy
}

// vote takes a slot's vote on the first transaction.
func (m *Machine) vote(c api.Command) api.Reply {
	if !m.awaits(c, false) {
		return answer(api.ErrNone)
	}
	t := &m.waiting[0]
	t.votes[c.Slot] = c.Err
	if c.Data != "" {
		t.data = strings.Clone(c.Data)
	}
	return answer(api.OK)
}

// end takes the end of the first transaction in a slot. With the last one it is answered.
func (m *Machine) end(c api.Command) api.Reply {
	if !m.awaits(c, true) {
		return answer(api.ErrNone)
	}
	t := m.waiting[0]
	t.ended[c.Slot] = struct{}{}
	if len(t.open()) == 0 {
		m.table.Put(t.id, answer(t.refusal())) // it isn't refused: room was left for it, and nothing later of the session could begin
		m.waiting = slices.Delete(m.waiting, 0, 1)
		m.answered++
	}
	return answer(api.OK)
}

// first is the number of the first transaction, if there is one.
func (m *Machine) first() int { return m.answered + 1 }

// awaits is whether a command is about the first transaction, which is decided or not, and about a slot that it waits for.
func (m *Machine) awaits(c api.Command, decided bool) bool {
	if len(m.waiting) == 0 || c.Tx != m.first() {
		return false
	}
	t := m.waiting[0]
	return t.isDecided() == decided && slices.Contains(t.open(), c.Slot)
}

// isDecided is whether all slots voted.
func (t transaction) isDecided() bool { return len(t.votes) == len(slots.Slots(t.op)) }

// open are the slots that did not vote yet, or, if it is decided, did not end yet, rising.
func (t transaction) open() []int {
	decided := t.isDecided()
	return slices.DeleteFunc(slots.Slots(t.op), func(slot int) bool {
		_, done := t.votes[slot]
		if decided {
			_, done = t.ended[slot]
		}
		return done
	})
}

// refusal is the vote by which it is refused, or OK. What is said of the channel that is moved goes ahead: a model asks for that one first, too.
func (t transaction) refusal() api.Errno {
	about := slots.Slots(t.op)
	if t.op.Kind == api.OpMove {
		from, _ := slots.Of(t.op.Space, t.op.Channel) // its names are labels, as the op may be
		about = slices.Insert(about, 0, from)
	}
	for _, slot := range about {
		if e := t.votes[slot]; e != api.OK {
			return e
		}
	}
	return api.OK
}

// isOfMany is whether an op is about several slots, by its kind.
func isOfMany(o api.Op) bool {
	return o.Kind == api.OpMove || o.Kind == api.OpClose || o.Kind == api.OpOff
}

// keptOp is an op as it is kept: of its own bytes, since what is handed in may be small pieces of a text that should not be kept.
func keptOp(o api.Op) api.Op {
	o.Space, o.Channel, o.User = strings.Clone(o.Space), strings.Clone(o.Channel), strings.Clone(o.User)
	o.ToSpace, o.To = strings.Clone(o.ToSpace), strings.Clone(o.To)
	return o
}
