package shard_test

import (
	"rookery/api"
	"slices"
	"strings"
	"testing"
)

const top = 1<<31 - 1 // the greatest session, and the greatest seq

// TestOpsOfEachKind: done by the model, one behind the other, and told.
func TestOpsOfEachKind(t *testing.T) {
	b := made(t, 1, 1)
	c := named(t, "w", 5, 0)
	for seq, o := range []api.Op{
		makes("w", c), makes("w", c), posts("w", c, "ann", "hi"), joins("w", c, "ann"), joins("w", c, "ann"),
		posts("w", c, "ann", "hi"), posts("w", c, "ann", ""), posts("w", c, "bob", "no"), reads("w", c, 0, 64), reads("w", c, 1, 1), reads("w", c, 5, 0),
		reads("w", c, top, 64), joins("w", c, "bob"), posts("w", c, "bob", strings.Repeat("é", 512)), reads("w", c, 0, 64),
		reads("w", named(t, "w", 5, 1), 0, 1), joins("v", named(t, "v", 5, 0), "ann"), makes("v", named(t, "v", 5, 0)),
	} {
		b.apply(ops(1, 1+seq, 5, o))
	}
	r := b.apply(ops(2, 1, 5, reads("w", c, 0, 64))).Reply
	want := []api.Post{{User: "ann", Text: "hi"}, {User: "ann"}, {User: "bob", Text: strings.Repeat("é", 512)}}
	if r.At != 3 || !slices.Equal(r.Posts, want) {
		t.Errorf("read: %v", r)
	}
}

// TestOpsThatMayNotBe: also of ops of several slots, and of another slot.
func TestOpsThatMayNotBe(t *testing.T) {
	b := made(t, 1, 1)
	c, d := named(t, "w", 5, 0), named(t, "w", 6, 0)
	for _, o := range []api.Op{
		{}, {Kind: -1, Space: "w", Channel: c}, {Kind: 8, Space: "w", Channel: c}, {Space: "w", Channel: c},
		makes("", c), makes("W", c), makes("w", ""), makes("w", "c/d"), makes("w", strings.Repeat("c", 17)),
		{Kind: api.OpMake, Space: "w", Channel: c, User: "ann"},
		joins("w", c, ""), joins("w", c, "Ann"), posts("w", c, "ann", "\xff"), posts("w", c, "ann", strings.Repeat("x", 1025)),
		reads("w", c, -1, 0), reads("w", c, 1<<31, 0), reads("w", c, 0, -1), reads("w", c, 0, 65),
		moves("w", c, "w", named(t, "w", 5, 1)), moves("w", c, "w", d), closes("w"), offs("ann"),
		makes("w", d), joins("w", d, "ann"), posts("w", d, "ann", "hi"), reads("w", d, 0, 1),
	} {
		b.refused(api.ErrArg, ops(1, 1, 5, o))
	}
	b.err(api.OK, ops(1, 1, 5, makes("w", c)))
	for slot := range 16 {
		if slot != 5 {
			b.refused(api.ErrArg, ops(1, 2, slot, joins("w", c, "ann")))
		}
	}
	b.err(api.OK, ops(1, 2, 5, joins("w", c, "ann")))
}

// TestOpsInTheirOrderOfErrors: of two errors that fit, the first one is told.
func TestOpsInTheirOrderOfErrors(t *testing.T) {
	b := made(t, 1, 2)
	here, away := named(t, "w", 5, 0), named(t, "w", 12, 0)
	bad := makes("w", "C")
	b.refused(api.ErrArg, ops(1, 1, 12, bad))                 // and it is not here
	b.refused(api.ErrArg, ops(1, 1, 12, offs("ann")))         // likewise
	b.refused(api.ErrStale, ops(-1, 0, 12, makes("w", away))) // and the id may not be
	b.refused(api.ErrArg, ops(1, 0, 5, makes("w", here)))
	b.refused(api.ErrArg, ops(-1, 1, 5, makes("w", here)))
	b.err(api.OK, ops(1, 5, 5, makes("w", here)))
	b.err(api.OK, ops(1, 6, 5, joins("w", here, "ann")))
	b.err(api.OK, locks(1, 5, offs("ann")))
	b.refused(api.OK, ops(1, 6, 5, joins("w", here, "ann")))             // found, and a hold is in the way
	b.refused(api.ErrOld, ops(1, 5, 5, posts("w", here, "ann", "hi")))   // elder, and a hold is in the way
	b.refused(api.ErrArg, ops(1, top+1, 5, posts("w", here, "ann", ""))) // and a hold is in the way
	for i := range 63 {
		b.err(api.OK, ops(100+i, 1, 5, joins("w", here, "u"+named(t, "w", 0, i))))
	}
	b.refused(api.ErrBusy, ops(300, 1, 5, posts("w", here, "ann", "hi"))) // and the table is full
	b.refused(api.ErrFull, ops(300, 1, 5, posts("w", here, "bob", "hi"))) // and bob is no member
	b.refused(api.ErrFull, ops(300, 1, 5, makes("w", here)))              // and it is there
	b.refused(api.ErrArg, ops(1<<31, 1, 5, makes("w", here)))             // and the table is full
	b.err(api.OK, finishes(1, 5, offs("ann"), false, ""))
	b.data(freezes(1, 5, 1))
	b.refused(api.ErrArg, ops(1, 6, 5, bad))                        // and it is frozen
	b.refused(api.ErrBusy, ops(1, 6, 5, joins("w", here, "ann")))   // and it would be found
	b.refused(api.ErrBusy, ops(1, 5, 5, joins("w", here, "ann")))   // and it is elder
	b.refused(api.ErrBusy, ops(-1, 0, 5, joins("w", here, "ann")))  // and the id may not be
	b.refused(api.ErrBusy, ops(300, 1, 5, joins("w", here, "ann"))) // and the table is full
}

// TestAskedTwice: the same reply, whatever is asked by that id, and nothing done.
func TestAskedTwice(t *testing.T) {
	b := made(t, 1, 1)
	c, d := named(t, "w", 5, 0), named(t, "w", 5, 1)
	b.err(api.OK, ops(7, 1, 5, makes("w", c)))
	b.err(api.OK, ops(7, 2, 5, joins("w", c, "ann")))
	first := b.apply(ops(7, 3, 5, posts("w", c, "ann", "hi"))).Reply
	for _, o := range []api.Op{posts("w", c, "ann", "hi"), posts("w", c, "ann", "other"), posts("w", c, "bob", "hi"), makes("w", d), reads("w", c, 0, 64)} {
		was := bytes(t, b.m)
		if r := b.apply(ops(7, 3, 5, o)).Reply; !sameReply(r, first) {
			t.Errorf("asked again: %v, not %v", r, first)
		}
		if bytes(t, b.m) != was {
			t.Errorf("asked again: the machine is another one")
		}
	}
	r := b.apply(ops(8, 9, 5, reads("w", c, 0, 64))).Reply
	b.err(api.OK, ops(9, 1, 5, joins("w", c, "bob")))
	b.apply(ops(9, 2, 5, posts("w", c, "bob", "later")))
	if again := b.apply(ops(8, 9, 5, reads("w", c, 0, 64))).Reply; !sameReply(r, again) || len(again.Posts) != 1 {
		t.Errorf("a page asked again: %v, not %v", again, r)
	}
}

// TestWhatIsRefusedByTheModelIsTakenNoteOf: it is answered so again, though it would be done now.
func TestWhatIsRefusedByTheModelIsTakenNoteOf(t *testing.T) {
	b := made(t, 1, 1)
	c := named(t, "w", 5, 0)
	b.err(api.ErrNone, ops(7, 1, 5, joins("w", c, "ann")))
	b.err(api.OK, ops(8, 1, 5, makes("w", c)))
	b.refused(api.ErrNone, ops(7, 1, 5, joins("w", c, "ann")))
	b.err(api.OK, ops(7, 2, 5, joins("w", c, "ann")))
	b.err(api.ErrThere, ops(7, 3, 5, joins("w", c, "ann")))
	b.err(api.ErrMember, ops(7, 4, 5, posts("w", c, "bob", "hi")))
	b.err(api.OK, ops(8, 2, 5, joins("w", c, "bob")))
	b.refused(api.ErrMember, ops(7, 4, 5, posts("w", c, "bob", "hi")))
}

// TestWhatWasBusyIsNotTakenNoteOf: asked again behind that, it is done.
func TestWhatWasBusyIsNotTakenNoteOf(t *testing.T) {
	b := made(t, 1, 1)
	c := named(t, "w", 5, 0)
	b.err(api.OK, locks(1, 5, closes("w")))
	b.refused(api.ErrBusy, ops(7, 1, 5, makes("w", c)))
	b.err(api.OK, finishes(1, 5, closes("w"), true, ""))
	b.err(api.OK, ops(7, 1, 5, makes("w", c)))
}

func TestElderNumbers(t *testing.T) {
	b := made(t, 1, 1)
	c := named(t, "w", 5, 0)
	b.err(api.OK, ops(0, top, 5, makes("w", c)))
	for _, seq := range []int{1, 2, top - 1} {
		b.refused(api.ErrOld, ops(0, seq, 5, joins("w", c, "ann")))
	}
	b.refused(api.OK, ops(0, top, 5, joins("w", c, "ann")))
	b.err(api.OK, ops(top, 5, 5, joins("w", c, "ann")))
	b.refused(api.ErrOld, ops(top, 4, 5, joins("w", c, "bob")))
	b.refused(api.OK, ops(top, 5, 5, joins("w", c, "bob")))
	b.err(api.OK, ops(top, 7, 5, joins("w", c, "bob")))
	b.refused(api.ErrOld, ops(top, 6, 5, joins("w", c, "eve")))
}

// TestIdsThatMayNotBe: each number at its edges.
func TestIdsThatMayNotBe(t *testing.T) {
	b := made(t, 1, 1)
	o := makes("w", named(t, "w", 5, 0))
	for _, bad := range append([]int{-1, top + 1, top + 2, 1 << 32}, beyond...) {
		b.refused(api.ErrArg, ops(bad, 1, 5, o))
		b.refused(api.ErrArg, ops(1, bad, 5, o))
	}
	b.refused(api.ErrArg, ops(0, 0, 5, o))
}

// TestSessionsOfEachSlotAreItsOwn: what is asked in one slot is not found in another one.
func TestSessionsOfEachSlotAreItsOwn(t *testing.T) {
	b := made(t, 1, 1)
	for slot := range 16 {
		c := named(t, "w", slot, 0)
		b.err(api.OK, ops(7, 16-slot, slot, makes("w", c)))
		b.err(api.ErrThere, ops(7, 17-slot, slot, makes("w", c)))
	}
}

// TestSessionsUpToTheLast: 64 of a slot, and one more.
func TestSessionsUpToTheLast(t *testing.T) {
	b := made(t, 1, 1)
	c := named(t, "w", 5, 0)
	b.err(api.OK, ops(0, 1, 5, makes("w", c)))
	for i := 1; i < 64; i++ {
		b.err(api.ErrThere, ops(i*1000, 3, 5, makes("w", c)))
	}
	for _, session := range []int{1, 64, 999, 1001, 64000, top} {
		b.refused(api.ErrFull, ops(session, 1, 5, joins("w", c, "ann")))
		b.refused(api.ErrFull, ops(session, 3, 5, joins("w", c, "ann")))
		b.refused(api.ErrFull, ops(session, top, 5, joins("w", c, "ann")))
	}
	b.refused(api.ErrOld, ops(63000, 2, 5, joins("w", c, "ann")))
	b.refused(api.ErrThere, ops(63000, 3, 5, joins("w", c, "ann")))
	b.err(api.OK, ops(63000, 4, 5, joins("w", c, "ann")))
	b.err(api.ErrThere, ops(0, 2, 5, joins("w", c, "ann")))
	d := named(t, "w", 6, 0)
	b.err(api.OK, ops(64000, 1, 6, makes("w", d)))
}

// TestChannelsThatAreFull: with 1024 posts there, and behind bytes.
func TestChannelsThatAreFull(t *testing.T) {
	b := made(t, 1, 1)
	c, d := named(t, "w", 5, 0), named(t, "w", 5, 1)
	b.err(api.OK, ops(1, 1, 5, makes("w", c)))
	b.err(api.OK, ops(1, 2, 5, joins("w", c, "ann")))
	for i := range 1024 {
		o := ops(1, 3+i, 5, posts("w", c, "ann", named(t, "w", i%16, i%3)))
		if r := b.m.Apply(o); r.Reply.At != i || r.Reply.Err != api.OK {
			t.Fatalf("post %d: %v", i, r)
		}
		b.p.apply(o, nil)
	}
	b.err(api.ErrFull, ops(1, 2000, 5, posts("w", c, "ann", "more")))
	o := moves("w", c, "w", d)
	data := b.data(locks(1, 5, o))
	b.err(api.OK, finishes(1, 5, o, true, data))
	b.err(api.ErrFull, ops(1, 2001, 5, posts("w", d, "ann", "more")))
	b.look(5, "ann", "bob")
}

// spoil writes over all posts of a list, and over the room behind it.
func spoil(posts []api.Post) {
	for i := range posts[:cap(posts)] {
		posts[:cap(posts)][i] = api.Post{User: "spoilt", Text: "spoilt"}
	}
}

// TestPostsThatAreToldAreNewMemory: what a caller does with them is not seen in the machine.
func TestPostsThatAreToldAreNewMemory(t *testing.T) {
	b := made(t, 1, 1)
	c := named(t, "w", 5, 0)
	b.err(api.OK, ops(1, 1, 5, makes("w", c)))
	b.err(api.OK, ops(1, 2, 5, joins("w", c, "ann")))
	for i := range 70 {
		b.apply(ops(1, 3+i, 5, posts("w", c, "ann", "hi")))
	}
	read := ops(2, 1, 5, reads("w", c, 0, 64))
	was := b.m.Apply(read).Reply
	b.p.apply(read, nil)
	kept := slices.Clone(was.Posts)
	spoil(was.Posts)
	for range 3 {
		again := b.m.Apply(read).Reply
		if !slices.Equal(again.Posts, kept) {
			t.Errorf("asked again: %v", again.Posts)
		}
		spoil(again.Posts)
	}
	b.same()
	b.look(5, "ann")
	other := b.m.Apply(ops(3, 1, 5, reads("w", c, 0, 64))).Reply
	if !slices.Equal(other.Posts, kept) {
		t.Errorf("read: %v", other.Posts)
	}
}
