package meta

import (
	"rookery/api"
	"strings"
)

// start lets a slot be on its way to another group.
func (m *Machine) start(c api.Command) api.Reply {
	from, epoch, e := m.owners.Owner(c.Slot)
	switch {
	case e != api.OK || c.Group < 1 || c.Group > m.groups:
		return answer(api.ErrArg)
	case m.plan.Plan != 0:
		return answer(api.ErrBusy)
	case from == c.Group:
		return answer(api.ErrThere)
	}
	m.plan = Plan{Plan: m.taken() + 1, Slot: c.Slot, From: from, To: c.Group, Epoch: epoch}
	return api.Reply{At: m.plan.Plan}
}

// freeze takes note of what stood in the slot, which changes no more.
func (m *Machine) freeze(c api.Command) api.Reply {
	if !m.isOnItsWay(c) || m.plan.Frozen {
		return answer(api.ErrNone)
	}
	m.plan.Frozen, m.plan.Data = true, strings.Clone(c.Data)
	return answer(api.OK)
}

// take lets the other group have the slot.
func (m *Machine) take(c api.Command) api.Reply {
	if !m.isOnItsWay(c) || !m.plan.Frozen {
		return answer(api.ErrNone)
	}
	if e := m.owners.Give(m.plan.Slot, m.plan.To); e != api.OK {
		return answer(e) // at the last epoch, which no machine comes to but one that From gave
	}
	m.plan = Plan{}
	return answer(api.OK)
}

// isOnItsWay is whether a command is about the plan.
func (m *Machine) isOnItsWay(c api.Command) bool {
	return m.plan.Plan != 0 && c.Plan == m.plan.Plan
}

// taken is how many plans came to their end: each of them let one epoch rise.
func (m *Machine) taken() int {
	n := 0
	for slot := range api.Slots {
		_, epoch, _ := m.owners.Owner(slot)
		n += epoch - 1
	}
	return n
}
