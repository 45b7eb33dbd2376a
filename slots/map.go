package slots

import "rookery/api"

const (
	maxGroup = api.MaxGroups - 1 // the groups of shards are 1 to this one: the meta group, 0, has no slots
	maxEpoch = 1<<31 - 1
)

// Map tells which group has which slot.
type Map struct {
	owners [api.Slots]owner // each at the place of its slot; of a map that neither New nor From gave they are zero
}

// owner is the group that has a slot, and the slot's epoch, which is 1 or more.
type owner struct {
	group int
	epoch int
}

// Range is slots one behind the other that one group has.
type Range struct {
	Low   int
	High  int
	Group int
}

// New is a map for so many groups.
func New(groups int) (*Map, api.Errno) {
	if !isGroup(groups) {
		return nil, api.ErrArg
	}
	m := &Map{}
	for slot := range m.owners {
		m.owners[slot] = owner{group: 1 + slot*groups/api.Slots, epoch: 1}
	}
	return m, api.OK
}

// Owner is the group that has a slot, and its epoch.
func (m *Map) Owner(slot int) (group, epoch int, e api.Errno) {
	if !m.has(slot) {
		return 0, 0, api.ErrArg
	}
	o := m.owners[slot]
	return o.group, o.epoch, api.OK
}

// Give gives a slot to a group.
func (m *Map) Give(slot, group int) api.Errno {
	if !m.has(slot) || !isGroup(group) {
		return api.ErrArg
	}
	o := &m.owners[slot]
	if o.group == group {
		return api.ErrThere // at the last epoch, too: it would not rise here
	}
	if o.epoch == maxEpoch {
		return api.ErrArg
	}
	*o = owner{group: group, epoch: o.epoch + 1}
	return api.OK
}

// Ranges are all slots, as ranges.
func (m *Map) Ranges() []Range {
	if !m.isMade() {
		return nil
	}
	var list []Range
	for slot, o := range m.owners {
		last := len(list) - 1
		if last >= 0 && list[last].Group == o.group {
			list[last].High = slot
		} else {
			list = append(list, Range{Low: slot, High: slot, Group: o.group})
		}
	}
	return list
}

// isMade is whether New or From gave the map.
func (m *Map) isMade() bool { return m != nil && m.owners[0].epoch > 0 }

// has is whether it is a map with such a slot.
func (m *Map) has(slot int) bool {
	return m.isMade() && slot >= 0 && slot < len(m.owners)
}

// isGroup is whether a group may have slots. It is also whether there may be so many of them, as they are numbered from 1 on.
func isGroup(group int) bool { return group >= 1 && group <= maxGroup }
