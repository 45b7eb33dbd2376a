package shard

import (
	"rookery/api"
	"rookery/slots"
	"slices"
)

// How a slot stands.
const (
	notHere = iota
	here
	frozen
)

// slot is one of a machine: how it stands with this group, and what goes with it to another one.
type slot struct {
	state int
	epoch int
	plan  int // for which it is frozen
	hold  hold
	content
}

// deed is what a slot does with a command of one kind.
type deed func(s *slot, c api.Command) Result

// deeds are all of them, by the kinds of commands.
func deeds() map[int]deed {
	return map[int]deed{
		api.CmdOp:     (*slot).ask,
		api.CmdLock:   (*slot).lock,
		api.CmdFinish: (*slot).finish,
		api.CmdFreeze: (*slot).freeze,
		api.CmdTake:   (*slot).take,
	}
}

// refuses is why nothing may change in the slot, if so.
func (s *slot) refuses() api.Errno {
	switch s.state {
	case here:
		return api.OK
	case frozen:
		return api.ErrBusy
	}
	return api.ErrStale
}

// ask does what a client asks, once.
func (s *slot) ask(c api.Command) Result {
	if isOfMany(c.Op) || !isAbout(c) {
		return answer(api.ErrArg)
	}
	if e := s.refuses(); e != api.OK {
		return answer(e)
	}
	r, e := s.Find(c.Id)
	switch {
	case e == api.OK:
		return Result{Reply: r}
	case e != api.ErrNone:
		return answer(e)
	case s.hold.isInTheWay(c.Op):
		return answer(api.ErrBusy)
	case s.isFull(c.Id.Session):
		return answer(api.ErrFull)
	}
	r = s.perform(c.Op)
	s.Put(c.Id, r) // it isn't refused: nothing was found of the id, there is room, and a page is no longer than what it takes
	return Result{Reply: r}
}

// freeze lets nothing change in the slot any more, and tells all that stands in it.
func (s *slot) freeze(c api.Command) Result {
	switch {
	case !isOnItsWay(c):
		return answer(api.ErrArg)
	case s.state == notHere || c.Epoch > s.epoch:
		return answer(api.ErrStale)
	case c.Epoch < s.epoch:
		return answer(api.ErrOld)
	case s.state == frozen && s.plan != c.Plan, !s.hold.isNone():
		return answer(api.ErrBusy)
	}
	s.state, s.plan = frozen, c.Plan
	return Result{Data: putContent(&s.content)}
}

// take lets the slot be here, with all that stood in it elsewhere.
func (s *slot) take(c api.Command) Result {
	if !isOnItsWay(c) {
		return answer(api.ErrArg)
	}
	if s.epoch >= c.Epoch {
		return answer(api.OK)
	}
	taken, ok := contentOf(c.Data)
	if !ok {
		return answer(api.ErrCommand)
	}
	*s = slot{state: here, epoch: c.Epoch, content: taken}
	return answer(api.OK)
}

// isOnItsWay is whether a command has a plan and an epoch.
func isOnItsWay(c api.Command) bool { return isNumber(c.Plan) && isNumber(c.Epoch) }

// isNumber is whether a transaction, a plan or an epoch may have the number.
func isNumber(n int) bool { return n >= 1 && n <= api.MaxIndex }

// isAbout is whether a command's op may be, and is about the command's slot.
func isAbout(c api.Command) bool { return slices.Contains(slots.Slots(c.Op), c.Slot) }

// isOfMany is whether an op is about several slots, by its kind.
func isOfMany(o api.Op) bool {
	return o.Kind == api.OpMove || o.Kind == api.OpClose || o.Kind == api.OpOff
}
