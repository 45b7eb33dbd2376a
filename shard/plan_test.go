package shard_test

import (
	"rookery/api"
	"slices"
	"testing"
)

// lively are both machines, in whose slot 5 stands something of each kind.
func lively(t *testing.T) *both {
	t.Helper()
	b := withChannel(t, 5, named(t, "w", 5, 0), "one", "two")
	b.fill(5, named(t, "w", 5, 1))
	b.err(api.OK, ops(7, 4, 5, makes("v", named(t, "v", 5, 0))))
	b.err(api.OK, ops(8, 1, 5, joins("v", named(t, "v", 5, 0), "bob")))
	b.err(api.OK, ops(8, 2, 5, joins("v", named(t, "v", 5, 0), "eve")))
	b.apply(ops(9, 1, 5, reads("w", named(t, "w", 5, 0), 0, 64)))
	b.err(api.OK, finishes(4, 5, offs("eve"), true, ""))
	b.err(api.OK, finishes(5, 5, offs("zoe"), true, ""))
	b.err(api.OK, finishes(2, 5, closes("x"), true, ""))
	b.err(api.OK, finishes(most, 5, closes("x"), false, ""))
	return b
}

// TestPlansAtTheEdgesOfNumbers of both kinds of commands.
func TestPlansAtTheEdgesOfNumbers(t *testing.T) {
	b := lively(t)
	data := b.copy().data(freezes(1, 5, 1))
	for _, bad := range append([]int{-1, 0, most + 1, most + 2}, beyond...) {
		b.refused(api.ErrArg, freezes(bad, 5, 1))
		b.refused(api.ErrArg, freezes(1, 5, bad))
		b.refused(api.ErrArg, freezes(bad, 5, bad))
		b.refused(api.ErrArg, takes(bad, 5, 2, data))
		b.refused(api.ErrArg, takes(1, 5, bad, data))
		b.refused(api.ErrArg, takes(bad, 5, bad, data))
	}
	for _, n := range []int{1, 2, most - 1, most} {
		c := b.copy()
		c.data(freezes(n, 5, 1))
		c.data(freezes(n, 5, 1))
		c = b.copy()
		c.err(api.OK, takes(n, 5, n, data))
		c.data(freezes(n, 5, n))
	}
}

// TestFreezesInTheirOrderOfErrors: of two errors that fit, the first one is told.
func TestFreezesInTheirOrderOfErrors(t *testing.T) {
	b := made(t, 1, 2)
	data := b.copy().data(freezes(1, 5, 1))
	b.refused(api.ErrArg, freezes(0, 12, 1))
	b.refused(api.ErrStale, freezes(1, 12, 1))
	b.refused(api.ErrStale, freezes(1, 12, most))
	b.err(api.OK, takes(1, 5, 7, data))
	b.err(api.OK, locks(1, 5, offs("ann")))
	b.refused(api.ErrStale, freezes(1, 5, 8)) // and it is held
	b.refused(api.ErrOld, freezes(1, 5, 6))
	b.refused(api.ErrOld, freezes(1, 5, 1))
	b.refused(api.ErrBusy, freezes(1, 5, 7))
	b.err(api.OK, finishes(1, 5, offs("ann"), false, ""))
	first := b.data(freezes(3, 5, 7))
	b.refused(api.ErrArg, freezes(3, 5, 0))
	b.refused(api.ErrStale, freezes(4, 5, 8)) // and it is frozen for another plan
	b.refused(api.ErrOld, freezes(4, 5, 6))
	b.refused(api.ErrBusy, freezes(4, 5, 7))
	b.refused(api.ErrBusy, freezes(2, 5, 7))
	b.refused(api.ErrStale, freezes(3, 5, 8)) // and it is frozen for this one
	b.refused(api.ErrOld, freezes(3, 5, 6))
	was := bytes(t, b.m)
	if again := b.data(freezes(3, 5, 7)); again != first || bytes(t, b.m) != was {
		t.Errorf("frozen again: %q, not %q", again, first)
	}
}

// TestTakesInTheirOrderOfErrors likewise.
func TestTakesInTheirOrderOfErrors(t *testing.T) {
	b := made(t, 1, 2)
	data := b.copy().data(freezes(1, 5, 1))
	b.refused(api.ErrArg, takes(0, 5, 1, "spoilt"))
	b.refused(api.ErrArg, takes(1, 12, 0, "spoilt"))
	b.refused(api.OK, takes(1, 5, 1, "spoilt"))
	b.refused(api.ErrCommand, takes(1, 5, 2, "spoilt"))
	b.refused(api.ErrCommand, takes(1, 12, 1, ""))
	b.err(api.OK, takes(1, 12, 5, data))
	for _, epoch := range []int{1, 4, 5} {
		b.refused(api.OK, takes(2, 12, epoch, data))
		b.refused(api.OK, takes(2, 12, epoch, "spoilt"))
	}
	b.refused(api.ErrCommand, takes(2, 12, 6, "spoilt"))
	b.err(api.OK, takes(2, 12, 6, data))
}

// TestWhatIsFrozenChangesNoMore: all else is refused, till it is taken again.
func TestWhatIsFrozenChangesNoMore(t *testing.T) {
	b := lively(t)
	c := named(t, "w", 5, 0)
	data := b.data(freezes(1, 5, 1))
	for _, o := range []api.Op{makes("w", named(t, "w", 5, 3)), joins("w", c, "bob"), posts("w", c, "ann", "hi"), reads("w", c, 0, 1)} {
		b.refused(api.ErrBusy, ops(1, 1, 5, o))
	}
	b.refused(api.ErrBusy, locks(1, 5, offs("ann")))
	b.refused(api.ErrBusy, finishes(1, 5, offs("ann"), true, ""))
	b.refused(api.ErrBusy, finishes(4, 5, offs("ann"), true, "")) // it ended
	b.refused(api.OK, takes(1, 5, 1, data))
	if state, epoch, e := b.m.Slot(5); state != 2 || epoch != 1 || e != api.OK {
		t.Errorf("Slot: %d, %d, %d", state, epoch, e)
	}
	b.err(api.OK, takes(1, 5, 3, data))
	b.err(api.OK, ops(1, 1, 5, joins("w", c, "bob")))
	b.refused(api.ErrOld, freezes(1, 5, 1))
	b.data(freezes(2, 5, 3))
}

// TestTakeBringsAll that stood in the slot: channels, members, posts, sessions, who is off, what ended.
func TestTakeBringsAll(t *testing.T) {
	a := lively(t)
	b := also(t, 2, 1, a.told)
	data := a.data(freezes(1, 5, 1))
	b.err(api.OK, takes(1, 5, 2, data))
	if state, epoch, e := b.m.Slot(5); state != 1 || epoch != 2 || e != api.OK || b.m.Holds(5) != 0 {
		t.Errorf("Slot: %d, %d, %d", state, epoch, e)
	}
	for _, x := range []*both{a, b} {
		if got := x.m.Channels("v"); !slices.Equal(got, []string{named(t, "v", 5, 0)}) {
			t.Errorf("Channels: %q", got)
		}
	}
	b.look(5, "ann", "bob", "eve", "zoe")
	was := bytes(t, b.m)
	b.refused(api.OK, ops(8, 2, 5, joins("v", named(t, "v", 5, 0), "eve")))
	b.refused(api.ErrOld, ops(8, 1, 5, joins("v", named(t, "v", 5, 0), "bob")))
	if r := b.apply(ops(9, 1, 5, reads("w", named(t, "w", 5, 0), 0, 64))).Reply; len(r.Posts) != 2 || bytes(t, b.m) != was {
		t.Errorf("asked again: %v", r)
	}
	b.err(api.ErrOff, ops(8, 3, 5, posts("v", named(t, "v", 5, 0), "eve", "hi")))
	b.err(api.ErrThere, ops(8, 4, 5, joins("v", named(t, "v", 5, 0), "bob")))
	for _, tx := range []int{2, 4, 5, most} {
		b.refused(api.ErrOld, locks(tx, 5, offs("ann")))
		b.refused(api.OK, finishes(tx, 5, closes("w"), true, ""))
	}
	b.err(api.OK, locks(3, 5, closes("w")))
	b.err(api.OK, finishes(3, 5, closes("w"), true, ""))
	b.look(5, "ann")
	a.look(6, "ann")
}

// TestTakeOfASlotThatIsHere: what stood there is gone, also who held it, and what it was frozen for.
func TestTakeOfASlotThatIsHere(t *testing.T) {
	a := lively(t)
	b := also(t, 1, 1, a.told)
	data := a.data(freezes(1, 5, 1))
	b.fill(5, named(t, "w", 5, 2), "old")
	b.err(api.OK, locks(1, 5, offs("ann")))
	b.err(api.OK, takes(1, 5, 2, data))
	if b.m.Holds(5) != 0 || slices.Contains(b.m.Channels("w"), named(t, "w", 5, 2)) {
		t.Errorf("Holds: %d, Channels: %q", b.m.Holds(5), b.m.Channels("w"))
	}
	b.err(api.OK, locks(1, 5, closes("v")))
	b.err(api.OK, finishes(1, 5, closes("v"), true, ""))
	b.data(freezes(2, 5, 2))
	b.err(api.OK, takes(9, 5, 3, data))
	b.data(freezes(1, 5, 3))
	b.look(5, "ann")
}

// TestTakeOfSpoiltData changes nothing.
func TestTakeOfSpoiltData(t *testing.T) {
	a := lively(t)
	channel := a.data(locks(77, 5, moves("w", named(t, "w", 5, 0), "w", named(t, "w", 5, 3))))
	a.err(api.OK, finishes(77, 5, offs("ann"), false, ""))
	empty := made(t, 1, 1)
	for _, data := range []string{a.data(freezes(1, 5, 1)), empty.data(freezes(1, 5, 1))} {
		b := also(t, 2, 2, a.told)
		b.fill(12, named(t, "w", 12, 0), "hi")
		was := bytes(t, b.m)
		for _, s := range append(spoilt(data), was, channel) {
			for _, slot := range []int{5, 12} {
				if r := b.m.Apply(takes(1, slot, 2, s)); !sameReply(r.Reply, api.Reply{Err: api.ErrCommand}) || r.Data != "" {
					t.Errorf("a take of %x: %v", s, r)
				}
			}
		}
		if bytes(t, b.m) != was {
			t.Errorf("the machine is another one")
		}
		b.told[data] = a.told[data]
		if b.told[data] == nil {
			b.told[data] = empty.told[data]
		}
		b.err(api.OK, takes(1, 5, 2, data))
		b.look(5, "ann", "bob", "eve")
	}
}

// TestASlotOnItsWayRound: through all groups, and back to the first one, with something done at each.
func TestASlotOnItsWayRound(t *testing.T) {
	told := map[string]any{}
	var groups []*both
	for group := 1; group <= 3; group++ {
		groups = append(groups, also(t, group, 1, told))
	}
	c := named(t, "w", 5, 0)
	groups[0].fill(5, c)
	for turn := range 7 {
		b, next := groups[turn%3], groups[(turn+1)%3]
		if r := b.apply(ops(1, 1+turn, 5, posts("w", c, "ann", "hi"))).Reply; r.Err != api.OK || r.At != turn {
			t.Errorf("turn %d: %v", turn, r)
		}
		b.err(api.OK, finishes(10+turn, 5, offs("bob"), true, ""))
		data := b.data(freezes(1+turn, 5, 1+turn))
		next.err(api.OK, takes(1+turn, 5, 2+turn, data))
		next.refused(api.OK, takes(1+turn, 5, 2+turn, data))
		b.refused(api.ErrBusy, ops(1, 1+turn, 5, posts("w", c, "ann", "hi")))
		if r := next.apply(ops(1, 1+turn, 5, posts("w", c, "ann", "hi"))).Reply; r.Err != api.OK || r.At != turn {
			t.Errorf("turn %d, asked again: %v", turn, r)
		}
		next.refused(api.ErrOld, locks(10+turn, 5, offs("eve")))
		next.look(5, "ann", "bob")
	}
}
