package shard

import (
	"rookery/api"
	"strings"
)

// hold is a transaction that holds a slot: its number, what it is about, and how the slot voted. Without a number it is none.
type hold struct {
	tx   int
	op   api.Op
	vote api.Errno
}

// isNone is whether nobody holds.
func (h hold) isNone() bool { return h.tx == 0 }

// isInTheWay is whether an op must wait for the hold's end.
func (h hold) isInTheWay(o api.Op) bool {
	switch h.op.Kind {
	case api.OpClose:
		return o.Space == h.op.Space
	case api.OpOff:
		return o.User == h.op.User
	case api.OpMove:
		return nameOf(o) == nameOf(h.op) || nameOf(o) == toOf(h.op)
	}
	return false
}

// lock lets a transaction hold the slot, and tells its vote.
func (s *slot) lock(c api.Command) Result {
	if !isTransaction(c) {
		return answer(api.ErrArg)
	}
	if e := s.refuses(); e != api.OK {
		return answer(e)
	}
	switch {
	case s.ended.has(c.Tx):
		return answer(api.ErrOld)
	case s.hold.isNone():
		s.hold = hold{tx: c.Tx, op: keptOp(c.Op), vote: s.voteOn(c.Op, c.Slot)}
	case s.hold.tx != c.Tx:
		return answer(api.ErrBusy)
	}
	return Result{Reply: api.Reply{Err: s.hold.vote}, Data: s.leaving(c.Slot)}
}

// voteOn is why an op of several slots can't be done here, if so.
func (s *slot) voteOn(o api.Op, number int) api.Errno {
	switch {
	case o.Kind == api.OpOff && s.isOff(o.User):
		return api.ErrOff
	case o.Kind == api.OpMove && nameOf(o).isOf(number) && !s.has(nameOf(o)):
		return api.ErrNone
	case o.Kind == api.OpMove && toOf(o).isOf(number) && s.has(toOf(o)):
		return api.ErrThere
	}
	return api.OK
}

// leaving is the channel that the hold moves from here, as bytes. It is as it stands now: a hold keeps no copy of it. There is none any more, if it went with the end of a transaction that didn't hold.
func (s *slot) leaving(number int) string {
	h := s.hold
	from := nameOf(h.op)
	if h.op.Kind != api.OpMove || h.vote != api.OK || !from.isOf(number) || !s.has(from) {
		return ""
	}
	return putChannel(s.channel(from))
}

// finish ends a transaction, as it was decided.
func (s *slot) finish(c api.Command) Result {
	if !isTransaction(c) {
		return answer(api.ErrArg)
	}
	if e := s.refuses(); e != api.OK {
		return answer(e)
	}
	if s.ended.has(c.Tx) {
		return answer(api.OK)
	}
	if c.Ok && !s.end(c) {
		return answer(api.ErrCommand)
	}
	if s.hold.tx == c.Tx {
		s.hold = hold{}
	}
	s.ended = s.ended.with(c.Tx)
	return answer(api.OK)
}

// end does what was decided. It is false, with nothing done, if the data are no channel, where one is asked for.
func (s *slot) end(c api.Command) bool {
	switch c.Op.Kind {
	case api.OpClose:
		s.closeSpace(c.Op.Space)
	case api.OpOff:
		s.turnOff(c.Op.User)
	case api.OpMove:
		return s.move(c)
	}
	return true
}

// move lets the channel that is moved be gone, and the one that is made be there, those of the two that are of the slot.
func (s *slot) move(c api.Command) bool {
	all := s.channels()
	if nameOf(c.Op).isOf(c.Slot) {
		delete(all, nameOf(c.Op))
	}
	if toOf(c.Op).isOf(c.Slot) {
		moved, ok := channelOf(c.Data)
		if !ok {
			return false
		}
		all[toOf(c.Op).kept()] = moved
	}
	return s.lay(all)
}

// isTransaction is whether a command has a transaction's number, and its op that is about the command's slot.
func isTransaction(c api.Command) bool {
	return isNumber(c.Tx) && isOfMany(c.Op) && isAbout(c)
}

// keptOp is an op of several slots as it is kept: of its own bytes, since what is handed in may be small pieces of a text that should not be kept.
func keptOp(o api.Op) api.Op {
	from, to := nameOf(o).kept(), toOf(o).kept()
	return api.Op{Kind: o.Kind, Space: from.space, Channel: from.channel, User: strings.Clone(o.User), ToSpace: to.space, To: to.channel}
}
