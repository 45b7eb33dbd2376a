package shard_test

import (
	"rookery/api"
	"slices"
	"strings"
	"testing"
)

const most = 1 << 40 // the greatest number of a transaction, a plan, an epoch

// withChannel are both machines of one group, in which the channel of a slot has the member ann, and her posts.
func withChannel(t *testing.T, slot int, channel string, texts ...string) *both {
	t.Helper()
	b := made(t, 1, 1)
	b.fill(slot, channel, texts...)
	return b
}

// fill makes a channel of w, with the member ann, and her posts.
func (b *both) fill(slot int, channel string, texts ...string) {
	b.Helper()
	list := []api.Op{makes("w", channel), joins("w", channel, "ann")}
	for _, text := range texts {
		list = append(list, posts("w", channel, "ann", text))
	}
	for _, o := range list {
		if r := b.apply(ops(500, b.next(slot, 500), slot, o)); r.Reply.Err != api.OK {
			b.Errorf("%v: %d", o, r.Reply.Err)
		}
	}
}

// next is the next number of a session at a slot.
func (b *both) next(slot, session int) int {
	for _, n := range b.p.slots[slot].notes {
		if n.id.Session == session {
			return n.id.Seq + 1
		}
	}
	return 1
}

// TestTransactionsThatMayNotBe of both kinds of commands: numbers, ops, and ops of other slots.
func TestTransactionsThatMayNotBe(t *testing.T) {
	b := made(t, 1, 1)
	c, d, other := named(t, "w", 5, 0), named(t, "w", 6, 0), named(t, "w", 7, 0)
	for _, f := range []func(tx, slot int, o api.Op) api.Command{
		locks,
		func(tx, slot int, o api.Op) api.Command { return finishes(tx, slot, o, false, "") },
		func(tx, slot int, o api.Op) api.Command { return finishes(tx, slot, o, true, "") },
	} {
		for _, tx := range append([]int{-1, 0, most + 1, most + 2}, beyond...) {
			b.refused(api.ErrArg, f(tx, 5, offs("ann")))
			b.refused(api.ErrArg, f(tx, 5, closes("w")))
			b.refused(api.ErrArg, f(tx, 5, moves("w", c, "w", d)))
		}
		for _, o := range []api.Op{
			{}, {Kind: -1, User: "ann"}, {Kind: 8, User: "ann"}, makes("w", c), joins("w", c, "ann"), posts("w", c, "ann", "hi"), reads("w", c, 0, 1),
			offs(""), offs("Ann"), offs(strings.Repeat("a", 17)), {Kind: api.OpOff, User: "ann", Space: "w"},
			closes(""), closes("W"), {Kind: api.OpClose, Space: "w", Channel: c},
			moves("", c, "w", d), moves("w", "", "w", d), moves("w", c, "", d), moves("w", c, "w", ""), moves("w", c, "w", "D"),
			{Kind: api.OpMove, Space: "w", Channel: c, ToSpace: "w", To: d, User: "ann"},
			moves("w", other, "w", d), moves("w", d, "w", other), moves("w", other, "w", other),
		} {
			b.refused(api.ErrArg, f(1, 5, o))
		}
	}
}

// TestTransactionsAtTheEdgesOfNumbers: the first one and the last one.
func TestTransactionsAtTheEdgesOfNumbers(t *testing.T) {
	for _, tx := range []int{1, 2, most - 1, most} {
		b := made(t, 1, 1)
		b.err(api.OK, locks(tx, 5, offs("ann")))
		b.err(api.OK, locks(tx, 5, offs("ann")))
		b.err(api.OK, finishes(tx, 5, offs("ann"), true, ""))
		b.refused(api.ErrOld, locks(tx, 5, offs("ann")))
		b.refused(api.OK, finishes(tx, 5, offs("ann"), true, ""))
	}
}

// TestLocksInTheirOrderOfErrors: of two errors that fit, the first one is told.
func TestLocksInTheirOrderOfErrors(t *testing.T) {
	b := made(t, 1, 2)
	b.refused(api.ErrArg, locks(0, 12, offs("ann")))
	b.refused(api.ErrStale, locks(1, 12, offs("ann")))
	b.err(api.OK, finishes(1, 5, offs("ann"), true, ""))
	b.err(api.ErrOff, locks(2, 5, offs("ann"))) // it holds, whatever it voted
	b.refused(api.ErrOld, locks(1, 5, offs("ann")))
	b.refused(api.ErrBusy, locks(3, 5, offs("ann")))
	b.refused(api.ErrBusy, locks(3, 5, offs("bob")))
	b.refused(api.ErrArg, locks(3, 5, offs("")))
	b.refused(api.ErrOff, locks(2, 5, offs("ann")))
	b.err(api.OK, finishes(2, 5, offs("ann"), false, ""))
	b.data(freezes(1, 5, 1))
	b.refused(api.ErrArg, locks(0, 5, offs("bob")))
	b.refused(api.ErrBusy, locks(1, 5, offs("bob"))) // and it ended
	b.refused(api.ErrBusy, locks(4, 5, offs("ann"))) // and ann is off
}

// TestFinishesInTheirOrderOfErrors likewise.
func TestFinishesInTheirOrderOfErrors(t *testing.T) {
	b := made(t, 1, 2)
	c, d := named(t, "w", 12, 0), named(t, "w", 5, 0)
	b.refused(api.ErrArg, finishes(0, 12, offs("ann"), true, ""))
	b.refused(api.ErrStale, finishes(1, 12, moves("w", d, "w", c), true, "spoilt"))
	b.err(api.OK, finishes(1, 5, offs("ann"), true, ""))
	b.refused(api.OK, finishes(1, 5, moves("w", c, "w", d), true, "spoilt"))
	b.refused(api.ErrCommand, finishes(2, 5, moves("w", c, "w", d), true, "spoilt"))
	b.refused(api.ErrArg, finishes(most+1, 5, moves("w", c, "w", d), true, "spoilt"))
	b.data(freezes(1, 5, 1))
	b.refused(api.ErrArg, finishes(1, 5, api.Op{}, true, ""))
	b.refused(api.ErrBusy, finishes(1, 5, offs("ann"), true, ""))
	b.refused(api.ErrBusy, finishes(2, 5, moves("w", c, "w", d), true, "spoilt"))
}

// TestOneHoldsAtATime: the same one again, another one, and behind its end the other one.
func TestOneHoldsAtATime(t *testing.T) {
	b := made(t, 1, 1)
	for _, o := range []api.Op{offs("ann"), closes("w"), moves("w", named(t, "w", 5, 0), "w", named(t, "w", 5, 1))} {
		b = made(t, 1, 1)
		b.apply(locks(4, 5, o))
		if n := b.m.Holds(5); n != 1 {
			t.Errorf("Holds: %d", n)
		}
		was := bytes(t, b.m)
		b.apply(locks(4, 5, o))
		b.refused(api.ErrBusy, locks(3, 5, o))
		b.refused(api.ErrBusy, locks(5, 5, offs("bob")))
		b.err(api.OK, locks(5, 6, offs("bob"))) // of another slot
		b.err(api.OK, finishes(5, 6, offs("bob"), false, ""))
		if b.m.Holds(5) != 1 || b.m.Holds(6) != 0 || was == bytes(t, b.m) {
			t.Errorf("Holds: %d, %d", b.m.Holds(5), b.m.Holds(6))
		}
		b.err(api.OK, finishes(4, 5, o, false, ""))
		b.refused(api.ErrOld, locks(4, 5, o))
		b.err(api.OK, locks(3, 5, offs("bob")))
	}
}

// TestTheVoteStays: it is told again as it was, though it would be another one now.
func TestTheVoteStays(t *testing.T) {
	c, d := named(t, "w", 5, 0), named(t, "w", 5, 1)
	b := made(t, 1, 1)
	b.err(api.OK, locks(1, 5, offs("ann")))
	b.err(api.OK, finishes(2, 5, offs("ann"), true, ""))
	b.refused(api.OK, locks(1, 5, offs("ann")))
	b = made(t, 1, 1)
	b.err(api.ErrNone, locks(1, 5, moves("w", c, "w", d)))
	b.refused(api.ErrNone, locks(1, 5, moves("w", c, "w", d)))
	b.refused(api.ErrNone, locks(1, 5, offs("ann")))
	b.err(api.OK, finishes(1, 5, moves("w", c, "w", d), false, ""))
	b.fill(5, c, "hi")
	b.refused(api.ErrOld, locks(1, 5, moves("w", c, "w", d)))
	first := b.data(locks(2, 5, moves("w", c, "w", d)))
	if again := b.data(locks(2, 5, moves("w", c, "w", d))); again != first {
		t.Errorf("told again: %q, not %q", again, first)
	}
	if again := b.data(locks(2, 5, offs("ann"))); again != first {
		t.Errorf("told again: %q, not %q", again, first)
	}
	b.err(api.OK, finishes(3, 5, closes("w"), true, ""))
	b.refused(api.OK, locks(2, 5, moves("w", c, "w", d))) // there is no such channel any more, to be told
	if b.m.Holds(5) != 1 {
		t.Errorf("Holds: %d", b.m.Holds(5))
	}
}

// TestHoldsInTheWay of ops of each kind: those of the hold's workspace, user, channels, and all others.
func TestHoldsInTheWay(t *testing.T) {
	c, d, other := named(t, "w", 5, 0), named(t, "v", 5, 0), named(t, "w", 5, 1)
	far := named(t, "w", 6, 0)
	of := func(space, channel, user string) []api.Op {
		return []api.Op{makes(space, channel), joins(space, channel, user), posts(space, channel, user, "hi"), reads(space, channel, 0, 9)}
	}
	for _, x := range []struct {
		hold api.Op
		free []api.Op
		held []api.Op
	}{
		{closes("w"), of("v", d, "ann"), slices.Concat(of("w", c, "ann"), of("w", other, "bob"))},
		{closes("x"), slices.Concat(of("w", c, "ann"), of("v", d, "ann")), nil},
		{offs("ann"), append(of("w", c, "bob"), makes("v", d), reads("v", d, 0, 1)), []api.Op{joins("w", c, "ann"), posts("w", c, "ann", "hi"), joins("v", d, "ann"), posts("w", other, "ann", "hi")}},
		{moves("w", c, "v", d), slices.Concat(of("w", other, "ann"), of("v", named(t, "v", 5, 1), "ann")), slices.Concat(of("w", c, "bob"), of("v", d, "bob"))},
		{moves("w", c, "w", far), slices.Concat(of("w", other, "ann"), of("v", d, "ann")), of("w", c, "bob")},
		{moves("w", far, "v", d), slices.Concat(of("w", other, "ann"), of("w", c, "ann")), of("v", d, "bob")},
	} {
		for _, ok := range []bool{false, true} {
			b := withChannel(t, 5, c, "hi")
			r := b.apply(locks(1, 5, x.hold))
			for _, o := range x.held {
				b.refused(api.ErrBusy, ops(1, b.next(5, 1), 5, o))
			}
			for _, o := range x.free {
				if r := b.apply(ops(1, b.next(5, 1), 5, o)); r.Reply.Err == api.ErrBusy {
					t.Errorf("%v is in the way of %v", x.hold, o)
				}
			}
			data := r.Data
			if data == "" {
				data = withoutPosts(t)
			}
			b.told[data] = orNone(b.told[data])
			b.err(api.OK, finishes(1, 5, x.hold, ok, data))
			for _, o := range append(x.held, x.free...) {
				if r := b.apply(ops(1, b.next(5, 1), 5, o)); r.Reply.Err == api.ErrBusy {
					t.Errorf("%v is in the way of %v still", x.hold, o)
				}
			}
		}
	}
}

// withoutPosts is the Data of a channel that has nothing.
func withoutPosts(t *testing.T) string {
	t.Helper()
	b := made(t, 1, 1)
	c := named(t, "w", 5, 0)
	b.err(api.OK, ops(1, 1, 5, makes("w", c)))
	return b.data(locks(1, 5, moves("w", c, "w", named(t, "w", 5, 1))))
}

// orNone is what Data stand for, or a channel that has nothing.
func orNone(data any) any {
	if data == nil {
		return &plainChannel{}
	}
	return data
}

// TestVotesThatAreRefusedHoldToo: they are in the way till the end.
func TestVotesThatAreRefusedHoldToo(t *testing.T) {
	b := made(t, 1, 1)
	c, d := named(t, "w", 5, 0), named(t, "w", 5, 1)
	b.err(api.ErrNone, locks(1, 5, moves("w", c, "w", d)))
	b.refused(api.ErrBusy, ops(1, 1, 5, makes("w", c)))
	b.refused(api.ErrBusy, ops(1, 1, 5, makes("w", d)))
	b.refused(api.ErrBusy, freezes(1, 5, 1))
	b.err(api.OK, finishes(1, 5, moves("w", c, "w", d), false, ""))
	b.err(api.OK, ops(1, 1, 5, makes("w", c)))
}

// moveSlots are the slots of the two channels: both the same, and two others.
var moveSlots = [][2]int{{5, 5}, {5, 6}, {6, 5}, {0, 15}, {15, 0}}

// TestVotesOfAMove: each of the two channels there or not, in one slot and in two.
func TestVotesOfAMove(t *testing.T) {
	for _, s := range moveSlots {
		for _, hasFrom := range []bool{false, true} {
			for _, hasTo := range []bool{false, true} {
				c, d := named(t, "w", s[0], 0), named(t, "w", s[1], 1)
				b := made(t, 1, 1)
				if hasFrom {
					b.fill(s[0], c, "hi", "you")
				}
				if hasTo {
					b.fill(s[1], d, "there")
				}
				o := moves("w", c, "w", d)
				for _, slot := range []int{s[0], s[1], s[0]} {
					want := api.OK
					if slot == s[0] && !hasFrom {
						want = api.ErrNone
					} else if slot == s[1] && hasTo {
						want = api.ErrThere
					}
					if slot == s[0] && want == api.OK {
						b.data(locks(1, slot, o))
					} else {
						b.err(want, locks(1, slot, o))
					}
				}
			}
		}
	}
}

// TestMoves: the channel's posts and members are where it is then, and not where it was; with Ok and without.
func TestMoves(t *testing.T) {
	for _, s := range moveSlots {
		for _, ok := range []bool{false, true} {
			c, d := named(t, "w", s[0], 0), named(t, "v", s[1], 1)
			b := withChannel(t, s[0], c, "one", "two", "three")
			b.fill(s[0], named(t, "w", s[0], 2), "beside")
			b.fill(s[1], named(t, "w", s[1], 3), "beside")
			b.err(api.OK, ops(3, 1, s[0], joins("w", c, "bob")))
			o := moves("w", c, "v", d)
			data := b.data(locks(9, s[0], o))
			b.apply(locks(9, s[1], o))
			b.err(api.OK, finishes(9, s[0], o, ok, data))
			b.apply(finishes(9, s[1], o, ok, data))
			b.refused(api.OK, finishes(9, s[1], o, ok, data))
			want := []string{d}
			if !ok {
				want = nil
			}
			if got := b.m.Channels("v"); !slices.Equal(got, want) {
				t.Errorf("Channels: %q, not %q", got, want)
			}
			if got := slices.Contains(b.m.Channels("w"), c); got == ok {
				t.Errorf("%q is there: %v", c, got)
			}
			for slot := range 16 {
				b.look(slot, "ann", "bob", "eve")
			}
		}
	}
}

// TestMovesToItself, and to one that is there: what was decided is done, as the data have it.
func TestMovesToItself(t *testing.T) {
	b := withChannel(t, 5, named(t, "w", 5, 0), "one")
	c, d := named(t, "w", 5, 0), named(t, "w", 5, 1)
	b.err(api.ErrThere, locks(1, 5, moves("w", c, "w", c)))
	b.err(api.OK, finishes(1, 5, moves("w", c, "w", c), false, ""))
	data := b.data(locks(2, 5, moves("w", c, "w", d)))
	b.err(api.OK, finishes(2, 5, moves("w", c, "w", d), false, ""))
	b.err(api.OK, finishes(3, 5, moves("w", c, "w", c), true, data))
	b.look(5, "ann", "bob")
	b.fill(5, d, "other", "texts")
	b.err(api.OK, finishes(4, 5, moves("w", c, "w", d), true, data))
	if got := b.m.Channels("w"); !slices.Equal(got, []string{d}) {
		t.Errorf("Channels: %q", got)
	}
	b.look(5, "ann", "bob")
}

// TestFinishesWithoutAHold: they end it, and what was decided is done.
func TestFinishesWithoutAHold(t *testing.T) {
	b := withChannel(t, 5, named(t, "w", 5, 0), "one")
	b.err(api.OK, finishes(1, 5, closes("w"), false, ""))
	b.refused(api.OK, finishes(1, 5, closes("w"), true, ""))
	b.refused(api.ErrOld, locks(1, 5, closes("w")))
	if got := b.m.Channels("w"); len(got) != 1 {
		t.Errorf("Channels: %q", got)
	}
	b.err(api.OK, locks(2, 5, offs("bob")))
	b.err(api.OK, finishes(3, 5, closes("w"), true, ""))
	if got := b.m.Channels("w"); len(got) != 0 || b.m.Holds(5) != 1 {
		t.Errorf("Channels: %q, Holds: %d", got, b.m.Holds(5))
	}
}

// TestCloses: the workspace's channels of the slot are gone, and no others.
func TestCloses(t *testing.T) {
	b := withChannel(t, 5, named(t, "w", 5, 0), "one")
	b.fill(5, named(t, "w", 5, 1), "two")
	b.fill(6, named(t, "w", 6, 0), "three")
	b.err(api.OK, ops(1, 1, 5, makes("v", named(t, "v", 5, 0))))
	b.err(api.OK, locks(1, 5, closes("w")))
	b.err(api.OK, finishes(1, 5, closes("w"), true, ""))
	if got := b.m.Channels("w"); !slices.Equal(got, []string{named(t, "w", 6, 0)}) {
		t.Errorf("Channels: %q", got)
	}
	if got := b.m.Channels("v"); len(got) != 1 {
		t.Errorf("Channels: %q", got)
	}
	b.err(api.OK, ops(1, 2, 5, makes("w", named(t, "w", 5, 0))))
	b.look(5, "ann")
	b.look(6, "ann")
}

// TestOffs: the user is no member of any channel of the slot, and will not be; of another slot is still.
func TestOffs(t *testing.T) {
	b := withChannel(t, 5, named(t, "w", 5, 0), "one")
	b.fill(5, named(t, "w", 5, 1), "two")
	b.fill(6, named(t, "w", 6, 0), "three")
	b.err(api.OK, locks(1, 5, offs("ann")))
	b.err(api.OK, finishes(1, 5, offs("ann"), true, ""))
	for _, nth := range []int{0, 1} {
		b.err(api.ErrOff, ops(1, b.next(5, 1), 5, posts("w", named(t, "w", 5, nth), "ann", "hi")))
		b.err(api.ErrOff, ops(1, b.next(5, 1), 5, joins("w", named(t, "w", 5, nth), "ann")))
	}
	b.err(api.ErrOff, locks(2, 5, offs("ann")))
	b.err(api.OK, finishes(2, 5, offs("ann"), true, ""))
	b.err(api.OK, locks(3, 5, offs("an")))
	if r := b.apply(ops(1, 1, 6, posts("w", named(t, "w", 6, 0), "ann", "hi"))); r.Reply.Err != api.OK || r.Reply.At != 1 {
		t.Errorf("post: %v", r)
	}
	b.look(5, "ann", "bob")
}

// TestMovesOfPostsOfOneWhoIsOff: they go with the channel, into slots where the author is off as well.
func TestMovesOfPostsOfOneWhoIsOff(t *testing.T) {
	for _, s := range moveSlots {
		c, d := named(t, "w", s[0], 0), named(t, "w", s[1], 1)
		b := withChannel(t, s[0], c, "one", "two")
		b.err(api.OK, ops(3, 1, s[0], joins("w", c, "bob")))
		b.apply(ops(3, 2, s[0], posts("w", c, "bob", "three")))
		for slot := range 16 {
			b.err(api.OK, locks(1, slot, offs("ann")))
			b.err(api.OK, finishes(1, slot, offs("ann"), true, ""))
		}
		b.move(2, s, moves("w", c, "w", d))
		b.look(s[1], "ann", "bob", "eve")
		r := b.apply(ops(4, 1, s[1], reads("w", d, 0, 64))).Reply
		if want := []api.Post{{User: "ann", Text: "one"}, {User: "ann", Text: "two"}, {User: "bob", Text: "three"}}; !slices.Equal(r.Posts, want) {
			t.Errorf("read: %v", r)
		}
	}
}

// move does a move whole, of channels of these two slots.
func (b *both) move(tx int, s [2]int, o api.Op) {
	b.Helper()
	data := b.data(locks(tx, s[0], o))
	b.apply(locks(tx, s[1], o))
	b.err(api.OK, finishes(tx, s[0], o, true, data))
	b.err(api.OK, finishes(tx, s[1], o, true, data))
}

// TestMovesAreAsTheDataHaveThem: also into slots where the author of posts is off no more, and where a member is; and further on.
func TestMovesAreAsTheDataHaveThem(t *testing.T) {
	b := withChannel(t, 5, named(t, "w", 5, 0), "one", "two")
	b.err(api.OK, ops(3, 1, 5, joins("w", named(t, "w", 5, 0), "bob")))
	b.err(api.OK, finishes(1, 5, offs("ann"), true, ""))
	b.err(api.OK, finishes(1, 6, offs("bob"), true, ""))
	c, d, f := named(t, "w", 5, 0), named(t, "w", 6, 0), named(t, "w", 7, 0)
	b.move(2, [2]int{5, 6}, moves("w", c, "w", d))
	b.look(6, "ann", "bob", "eve")
	b.err(api.ErrMember, ops(3, 1, 6, posts("w", d, "ann", "hi")))
	b.err(api.ErrOff, ops(3, 2, 6, posts("w", d, "bob", "hi")))
	before := b.copy()
	b.move(3, [2]int{6, 7}, moves("w", d, "w", f))
	b.look(7, "ann", "bob", "eve")
	b.err(api.ErrMember, ops(3, 1, 7, posts("w", f, "ann", "hi")))
	if r := b.apply(ops(3, 2, 7, posts("w", f, "bob", "hi"))).Reply; r.Err != api.OK || r.At != 2 {
		t.Errorf("post: %v", r)
	}
	b.err(api.OK, ops(3, 3, 7, joins("w", f, "ann")))
	b.err(api.ErrThere, ops(3, 4, 7, joins("w", f, "ann")))
	b.look(7, "ann", "bob", "eve")
	before.err(api.OK, ops(3, 3, 6, joins("w", d, "ann")))
	before.err(api.OK, finishes(3, 6, offs("ann"), true, ""))
	before.look(6, "ann", "bob", "eve")
	before.move(4, [2]int{6, 7}, moves("w", d, "w", f))
	before.look(7, "ann", "bob", "eve")
}

// TestMovesGoneAndComeAgain: what was noted of a channel goes when it does.
func TestMovesGoneAndComeAgain(t *testing.T) {
	c, d := named(t, "w", 5, 0), named(t, "w", 6, 0)
	for _, end := range []api.Op{closes("w"), offs("ann"), offs("bob")} {
		b := withChannel(t, 5, c, "one")
		b.err(api.OK, ops(3, 1, 5, joins("w", c, "bob")))
		b.err(api.OK, finishes(1, 5, offs("ann"), true, ""))
		b.err(api.OK, finishes(1, 6, offs("bob"), true, ""))
		b.move(2, [2]int{5, 6}, moves("w", c, "w", d))
		b.err(api.OK, finishes(3, 6, end, true, ""))
		b.apply(ops(3, 1, 6, makes("w", d)))
		b.look(6, "ann", "bob")
		b.apply(ops(3, 2, 6, joins("w", d, "ann")))
		b.apply(ops(3, 3, 6, posts("w", d, "ann", "hi")))
		b.look(6, "ann", "bob")
	}
}

// TestMovesOfOneWhoGoesOffOnTheWay: who was noted of a channel is no member of it then, here or further on.
func TestMovesOfOneWhoGoesOffOnTheWay(t *testing.T) {
	c, d, f := named(t, "w", 5, 0), named(t, "w", 6, 0), named(t, "w", 7, 0)
	for _, user := range []string{"ann", "bob", "eve"} {
		b := withChannel(t, 5, c, "one")
		b.err(api.OK, ops(3, 1, 5, joins("w", c, "bob")))
		b.err(api.OK, finishes(1, 5, offs("ann"), true, ""))
		b.err(api.OK, finishes(1, 6, offs("bob"), true, ""))
		b.move(2, [2]int{5, 6}, moves("w", c, "w", d))
		b.err(api.OK, finishes(3, 6, offs(user), true, ""))
		b.move(4, [2]int{6, 7}, moves("w", d, "w", f))
		b.look(7, "ann", "bob", "eve")
	}
}

// TestChannelsOfOtherSlots, which stand in a slot that took what stood in another one: a move is not about them there.
func TestChannelsOfOtherSlots(t *testing.T) {
	c, d := named(t, "w", 5, 0), named(t, "w", 6, 0)
	b := withChannel(t, 5, c, "one")
	other := also(t, 2, 1, b.told)
	other.err(api.OK, takes(1, 6, 1, b.copy().data(freezes(1, 5, 1))))
	other.err(api.OK, locks(1, 6, moves("w", c, "w", d)))
	other.err(api.OK, finishes(1, 6, moves("w", c, "w", d), true, b.data(locks(1, 5, moves("w", c, "w", d)))))
	if got := other.m.Channels("w"); len(got) != 2 {
		t.Errorf("Channels: %q", got)
	}
	other.data(locks(2, 6, moves("w", d, "w", c)))
	other.err(api.OK, finishes(2, 6, moves("w", d, "w", c), true, ""))
	if got := other.m.Channels("w"); !slices.Equal(got, []string{c}) {
		t.Errorf("Channels: %q", got)
	}
}

// spoilt are bytes that nobody told: cut, with one byte more, with another byte, others.
func spoilt(s string) []string {
	list := []string{"", "spoilt", "\x00", strings.Repeat("\xff", 30), s + s}
	for i := range s {
		list = append(list, s[:i], s[i+1:], s[:i]+"\x00"+s[i:])
		for _, turn := range []byte{1, 2, 0x20, 0x80, 0xff} {
			list = append(list, s[:i]+string([]byte{s[i] ^ turn})+s[i+1:])
		}
	}
	for more := range 256 {
		list = append(list, s+string([]byte{byte(more)}), string([]byte{byte(more)})+s)
	}
	return without(list, func(x string) bool { return x == s })
}

// TestFinishesOfSpoiltData: it holds still, nothing is changed, and the right Data end it.
func TestFinishesOfSpoiltData(t *testing.T) {
	c, d := named(t, "w", 5, 0), named(t, "w", 6, 0)
	for _, texts := range [][]string{nil, {"hi"}, {"one", "", "three"}} {
		b := withChannel(t, 5, c, texts...)
		o := moves("w", c, "w", d)
		data := b.data(locks(1, 5, o))
		b.err(api.OK, locks(1, 6, o))
		frozen := b.copy()
		slot := frozen.data(freezes(1, 7, 1))
		was := bytes(t, b.m)
		for _, s := range append(spoilt(data), was, slot) {
			if r := b.m.Apply(finishes(1, 6, o, true, s)); !sameReply(r.Reply, api.Reply{Err: api.ErrCommand}) || r.Data != "" {
				t.Errorf("a finish of %x (%x): %v", s, data, r)
			}
		}
		if bytes(t, b.m) != was || b.m.Holds(6) != 1 {
			t.Errorf("the machine is another one")
		}
		b.err(api.OK, finishes(1, 6, o, true, data))
		b.look(6, "ann", "bob")
	}
}

// TestFinishesThatDoNotAskForData: whatever is in them.
func TestFinishesThatDoNotAskForData(t *testing.T) {
	c, d := named(t, "w", 5, 0), named(t, "w", 6, 0)
	for _, data := range []string{"", "spoilt"} {
		b := withChannel(t, 5, c, "hi")
		b.err(api.OK, finishes(1, 5, moves("w", c, "w", d), true, data)) // it is only moved from here
		b.err(api.OK, finishes(1, 6, moves("w", c, "w", d), false, data))
		b.err(api.OK, finishes(2, 5, closes("w"), true, data))
		b.err(api.OK, finishes(3, 5, offs("ann"), true, data))
	}
}

// TestManyThatEnded: in any order, with gaps between.
func TestManyThatEnded(t *testing.T) {
	draw := draws(7)
	for _, low := range []int{1, most - 40} {
		b := made(t, 1, 1)
		var list []int
		for range 120 {
			tx := low + draw(41)
			b.err(api.OK, finishes(tx, 5, offs("ann"), false, ""))
			list = append(list, tx)
		}
		for tx := low; tx <= low+40; tx++ {
			c := b.copy()
			if slices.Contains(list, tx) {
				c.refused(api.ErrOld, locks(tx, 5, offs("ann")))
			} else {
				c.err(api.OK, locks(tx, 5, offs("ann")))
			}
		}
	}
}
