package shard_test

import (
	"rookery/api"
	"rookery/shard"
	"slices"
	"testing"
)

// TestTheExample is the chapter's.
func TestTheExample(t *testing.T) {
	b := made(t, 1, 1)
	c := named(t, "w", 6, 0)
	b.err(api.OK, ops(1, 1, 6, makes("w", c)))
	b.err(api.OK, ops(1, 2, 6, joins("w", c, "ann")))
	b.err(api.OK, locks(1, 6, offs("ann")))
	b.refused(api.ErrBusy, ops(1, 3, 6, posts("w", c, "ann", "hi")))
	b.err(api.OK, finishes(1, 6, offs("ann"), true, ""))
	b.err(api.ErrOff, ops(1, 3, 6, posts("w", c, "ann", "hi")))
}

// TestNew at the edges of both numbers, and which slots are here then.
func TestNew(t *testing.T) {
	edges := append([]int{-1, 0, 1, 2, 7, 8, 9, 10, 256, 257}, beyond...)
	for _, group := range edges {
		for _, groups := range edges {
			m, e := shard.New(group, groups)
			if group < 1 || group > 8 || groups < 1 || groups > 8 {
				if m != nil || e != api.ErrArg {
					t.Errorf("New(%d, %d): %v, %d", group, groups, m, e)
				}
				continue
			}
			if m == nil || e != api.OK {
				t.Fatalf("New(%d, %d): %v, %d", group, groups, m, e)
			}
			b := &both{t, m, plainNew(group, groups), map[string]any{}}
			b.same()
			from(t, bytes(t, m))
		}
	}
}

func TestSlotsThatAreHereAtFirst(t *testing.T) {
	for group, want := range map[int][]int{1: {0, 1, 2, 3, 4, 5}, 2: {6, 7, 8, 9, 10}, 3: {11, 12, 13, 14, 15}, 4: nil, 8: nil} {
		b := made(t, group, 3)
		for slot := range 16 {
			state, epoch, e := b.m.Slot(slot)
			here := slices.Contains(want, slot)
			if here && (state != 1 || epoch != 1) || !here && (state != 0 || epoch != 0) || e != api.OK {
				t.Errorf("New(%d, 3), Slot(%d): %d, %d, %d", group, slot, state, epoch, e)
			}
			c := named(t, "w", slot, 0)
			if here {
				b.err(api.OK, ops(1, 1, slot, makes("w", c)))
			} else {
				b.refused(api.ErrStale, ops(1, 1, slot, makes("w", c)))
			}
		}
	}
}

// TestSlotsThatThereAreNot of each kind of command, which may be otherwise.
func TestSlotsThatThereAreNot(t *testing.T) {
	b := made(t, 1, 1)
	for _, slot := range append([]int{-1, 16, 17, 256, 1 << 32}, beyond...) {
		for _, c := range []api.Command{
			ops(1, 1, slot, makes("w", named(t, "w", 0, 0))),
			ops(1, 1, slot, makes("w", named(t, "w", 15, 0))),
			locks(1, slot, offs("ann")),
			finishes(1, slot, closes("w"), true, ""),
			freezes(1, slot, 1),
			takes(1, slot, 1, ""),
		} {
			b.refused(api.ErrArg, c)
		}
		b.refused(api.OK, api.Command{Slot: slot})
		if state, epoch, e := b.m.Slot(slot); state != 0 || epoch != 0 || e != api.ErrArg {
			t.Errorf("Slot(%d): %d, %d, %d", slot, state, epoch, e)
		}
		if n := b.m.Holds(slot); n != 0 {
			t.Errorf("Holds(%d): %d", slot, n)
		}
	}
	for _, slot := range []int{0, 15} {
		b.err(api.OK, ops(1, 1, slot, makes("w", named(t, "w", slot, 0))))
		b.err(api.OK, locks(1, slot, offs("ann")))
		b.err(api.OK, finishes(1, slot, offs("ann"), true, ""))
		b.err(api.OK, takes(1, slot, 1, ""))
		b.data(freezes(1, slot, 1))
	}
}

// TestKindsThatAreNone: also those of the meta group.
func TestKindsThatAreNone(t *testing.T) {
	b := made(t, 1, 1)
	c := named(t, "w", 3, 0)
	full := api.Command{Id: api.Id{Session: 1, Seq: 1}, Op: makes("w", c), Tx: 1, Plan: 1, Slot: 3, Epoch: 1, Group: 1, Ok: true}
	for _, kind := range append([]int{-1, api.CmdBegin, api.CmdVoted, api.CmdEnded, api.CmdPlan, api.CmdFrozen, api.CmdTaken, 12, 13, 255, 256, 257, 1<<32 + 1}, beyond...) {
		for _, o := range []api.Op{{}, makes("w", c), offs("ann"), closes("w")} {
			for _, slot := range []int{-1, 0, 3, 15, 16} {
				full.Kind, full.Op, full.Slot = kind, o, slot
				b.refused(api.ErrArg, full)
			}
		}
	}
}

// TestCmdNone: whatever else is in it.
func TestCmdNone(t *testing.T) {
	b := made(t, 1, 2)
	for _, slot := range append([]int{-1, 0, 7, 8, 15, 16}, beyond...) {
		b.refused(api.OK, api.Command{Slot: slot})
		b.refused(api.OK, api.Command{Slot: slot, Id: api.Id{Session: -1}, Op: api.Op{Kind: -1}, Tx: -1, Plan: -1, Epoch: -1, Group: -1, Ok: true, Err: 9, Data: "none"})
	}
}

// TestMachinesThatNobodyGave: nil, and one of its own.
func TestMachinesThatNobodyGave(t *testing.T) {
	var own shard.Machine
	for _, m := range []*shard.Machine{nil, &own, new(shard.Machine), {}} {
		for _, kind := range append([]int{0, 1, 2, 3, 4, 5, 6, 12}, beyond...) {
			for _, slot := range []int{-1, 0, 15, 16} {
				r := m.Apply(api.Command{Kind: kind, Slot: slot, Op: offs("ann"), Tx: 1, Plan: 1, Epoch: 1, Data: "x"})
				if !sameReply(r.Reply, api.Reply{Err: api.ErrArg}) || r.Data != "" {
					t.Errorf("Apply of the kind %d: %v", kind, r)
				}
			}
		}
		for _, slot := range append([]int{-1, 0, 15, 16}, beyond...) {
			if state, epoch, e := m.Slot(slot); state != 0 || epoch != 0 || e != api.ErrArg {
				t.Errorf("Slot(%d): %d, %d, %d", slot, state, epoch, e)
			}
			if n := m.Holds(slot); n != 0 {
				t.Errorf("Holds(%d): %d", slot, n)
			}
		}
		for _, space := range []string{"", "w", "W"} {
			if list := m.Channels(space); len(list) != 0 {
				t.Errorf("Channels(%q): %q", space, list)
			}
		}
		if s, e := m.Bytes(); s != "" || e != api.ErrArg {
			t.Errorf("Bytes: %q, %d", s, e)
		}
	}
}

// TestChannels: of several slots, also frozen ones, rising, and none of another workspace.
func TestChannels(t *testing.T) {
	b := made(t, 1, 1)
	seq := 1
	for nth := range 3 {
		for slot := 15; slot >= 0; slot-- {
			for _, space := range []string{"w", "v"} {
				b.err(api.OK, ops(1, seq, slot, makes(space, named(t, space, slot, nth))))
				seq++
			}
		}
	}
	if list := b.m.Channels("w"); len(list) != 48 || !slices.IsSorted(list) {
		t.Errorf("Channels: %q", list)
	}
	for slot := range 16 {
		b.data(freezes(1, slot, 1))
	}
	if list := b.m.Channels("w"); len(list) != 48 || !slices.IsSorted(list) {
		t.Errorf("Channels: %q", list)
	}
	for _, space := range []string{"", "W", "w/c", "x", "ww"} {
		if list := b.m.Channels(space); len(list) != 0 {
			t.Errorf("Channels(%q): %q", space, list)
		}
	}
	list := b.m.Channels("w")
	for i := range list {
		list[i] = "spoilt"
	}
	b.same()
}

// TestChannelsEachOnce: where what one slot had is taken by another one, too.
func TestChannelsEachOnce(t *testing.T) {
	b := made(t, 1, 1)
	c := named(t, "w", 3, 0)
	b.err(api.OK, ops(1, 1, 3, makes("w", c)))
	data := b.data(freezes(1, 3, 1))
	b.err(api.OK, takes(2, 9, 2, data))
	if list := b.m.Channels("w"); !slices.Equal(list, []string{c}) {
		t.Errorf("Channels: %q", list)
	}
	b.err(api.OK, finishes(1, 9, closes("w"), true, ""))
	if list := b.m.Channels("w"); !slices.Equal(list, []string{c}) {
		t.Errorf("Channels: %q", list)
	}
}
