package meta_test

import (
	"reflect"
	"rookery/api"
	"strings"
	"testing"
)

const mostNumber = 1<<31 - 1 // of sessions, and of what they ask

// lively is a machine with something of everything: transactions that were answered, one that is driven, others that wait, a slot that went and one on its way.
func lively(t *testing.T) *both {
	t.Helper()
	b := made(t, 2)
	b.whole(7, 1, closes("w"), api.OK)
	b.whole(mostNumber, 300, offs("bob"), api.ErrOff)
	b.whole(0, 2, moving(t, 3, 5), -1<<63)
	b.at(api.OK, 1, plans(12, 1))
	b.err(api.OK, freezes(1, "gone"))
	b.err(api.OK, takes(1))
	b.at(api.ErrBusy, 4, begins(7, 2, moving(t, 9, 4)))
	b.at(api.ErrBusy, 5, begins(1, mostNumber, closes("w")))
	b.at(api.ErrBusy, 6, begins(2, 1, offs("ann")))
	b.err(api.OK, votesWith(4, 9, api.OK, "the channel"))
	b.at(api.OK, 2, plans(3, 2))
	b.err(api.OK, freezes(2, "all of it"))
	return b
}

// TestExample is the chapter's.
func TestExample(t *testing.T) {
	b := made(t, 2)
	b.at(api.ErrBusy, 1, begins(5, 1, closes("w")))
	for slot := range 16 {
		b.err(api.OK, votes(1, slot, api.OK))
	}
	for slot := range 16 {
		b.err(api.OK, ends(1, slot))
	}
	b.err(api.OK, begins(5, 1, closes("w")))
	if n := b.m.Waiting(); n != 0 {
		t.Errorf("Waiting: %d", n)
	}
}

// TestBeginOfOps: of each kind, and of those that may not be.
func TestBeginOfOps(t *testing.T) {
	for _, o := range []api.Op{
		moves("w", "c", "v", "d"), moves("w", "c", "w", "c"), closes("w"), offs("ann"),
		moves(strings.Repeat("w", 16), strings.Repeat("c", 16), strings.Repeat("v", 16), strings.Repeat("-", 16)),
		closes(strings.Repeat("0", 16)), offs(strings.Repeat("z", 16)),
	} {
		b := made(t, 1)
		b.at(api.ErrBusy, 1, begins(5, 1, o))
		if d, ok := b.m.Todo(); !ok || d.Op != o || d.Id != (api.Id{Session: 5, Seq: 1}) {
			t.Errorf("Todo: %+v, %t; not %+v", d, ok, o)
		}
	}
	b := made(t, 1)
	of := func(o api.Op, change func(o *api.Op)) api.Op {
		change(&o)
		return o
	}
	move := moves("w", "c", "v", "d")
	for _, o := range []api.Op{
		{}, {Kind: -1}, {Kind: api.OpOff + 1, User: "ann"}, {Kind: 1 << 40, User: "ann"},
		{Kind: api.OpMake, Space: "w", Channel: "c"},
		{Kind: api.OpJoin, Space: "w", Channel: "c", User: "ann"},
		{Kind: api.OpPost, Space: "w", Channel: "c", User: "ann", Text: "hi"},
		{Kind: api.OpRead, Space: "w", Channel: "c", From: 0, Most: 64},
		closes(""), closes("W"), closes(strings.Repeat("w", 17)), offs(""), offs("ann bob"), offs(strings.Repeat("a", 17)),
		of(move, func(o *api.Op) { o.Space = "" }), of(move, func(o *api.Op) { o.Channel = "C" }),
		of(move, func(o *api.Op) { o.ToSpace = "" }), of(move, func(o *api.Op) { o.To = "d/" }),
		of(move, func(o *api.Op) { o.User = "ann" }), of(move, func(o *api.Op) { o.Text = "hi" }), of(move, func(o *api.Op) { o.Most = 1 }),
		of(closes("w"), func(o *api.Op) { o.Channel = "c" }), of(closes("w"), func(o *api.Op) { o.From = 1 }),
		of(offs("ann"), func(o *api.Op) { o.Space = "w" }), of(offs("ann"), func(o *api.Op) { o.To = "d" }),
	} {
		b.err(api.ErrArg, begins(5, 1, o))
		b.err(api.ErrArg, begins(-1, 0, o))
	}
	if n := b.m.Waiting(); n != 0 {
		t.Errorf("Waiting: %d", n)
	}
}

// TestBeginOfIds: at the edges of sessions and of what they ask.
func TestBeginOfIds(t *testing.T) {
	b := made(t, 1)
	for _, session := range append([]int{-1, mostNumber + 1}, beyond...) {
		b.err(api.ErrArg, begins(session, 1, closes("w")))
	}
	for _, seq := range append([]int{0, -1, mostNumber + 1}, beyond...) {
		b.err(api.ErrArg, begins(5, seq, closes("w")))
	}
	b.at(api.ErrBusy, 1, begins(0, 1, closes("w")))
	b.at(api.ErrBusy, 2, begins(mostNumber, mostNumber, closes("w")))
	b.at(api.ErrBusy, 3, begins(1, mostNumber, closes("w")))
	b.at(api.ErrBusy, 4, begins(2, 1, closes("w")))
	b.err(api.ErrArg, begins(-1, 1, closes("w"))) // also while some wait
	b.err(api.ErrArg, begins(0, 0, closes("w")))
}

// TestBeginAgain: while it waits, and behind its answer; with another op it is the same one.
func TestBeginAgain(t *testing.T) {
	for _, e := range []api.Errno{api.OK, api.ErrOff, api.ErrNone, 12345, -7} {
		b := made(t, 1)
		b.at(api.ErrBusy, 1, begins(8, 1, closes("v")))
		b.at(api.ErrBusy, 2, begins(5, 3, offs("ann")))
		for range 2 { // first and behind another one, and then alone
			b.err(api.ErrBusy, begins(5, 3, offs("ann")))
			b.err(api.ErrBusy, begins(5, 3, closes("w")))
			b.err(api.ErrBusy, begins(5, 4, offs("ann")))
			b.err(api.ErrBusy, begins(5, mostNumber, offs("ann")))
			b.err(api.ErrOld, begins(5, 2, offs("ann")))
			b.err(api.ErrOld, begins(5, 1, offs("ann")))
			b.err(api.ErrArg, begins(5, 0, offs("ann")))
			b.decide(e)
			b.err(api.ErrArg, begins(5, 3, api.Op{}))
			if b.m.Waiting() == 2 {
				b.finish()
			}
		}
		b.err(api.ErrBusy, begins(5, 3, offs("ann"))) // it is decided, and not answered
		b.finish()
		b.err(e, begins(5, 3, offs("ann")))
		b.err(e, begins(5, 3, moves("w", "c", "v", "d")))
		b.err(api.ErrOld, begins(5, 2, offs("ann")))
		b.err(api.ErrOld, begins(5, 1, offs("ann")))
		b.err(e, begins(8, 1, closes("v")))
		b.at(api.ErrBusy, 3, begins(5, 4, offs("ann")))
		b.err(e, begins(5, 3, offs("ann"))) // what was answered last is found, also while a later one waits
		b.err(api.ErrOld, begins(5, 2, offs("ann")))
		b.err(api.ErrBusy, begins(5, 4, offs("ann")))
		b.at(api.ErrBusy, 4, begins(8, 4, closes("v")))
		b.err(api.ErrOld, begins(8, 3, closes("v"))) // above what was answered last, below what waits
		b.decide(api.OK)
		b.finish()
		b.err(api.OK, begins(5, 4, offs("ann")))
		b.err(api.ErrOld, begins(5, 3, offs("ann")))
	}
}

// TestManyThatWait: 64, and one more.
func TestManyThatWait(t *testing.T) {
	b := made(t, 1)
	for i := range 64 {
		b.at(api.ErrBusy, i+1, begins(i, 1, offs("ann")))
	}
	for _, session := range []int{64, 65, mostNumber} {
		b.err(api.ErrFull, begins(session, 1, offs("ann")))
	}
	b.err(api.ErrBusy, begins(63, 1, offs("ann")))
	b.err(api.ErrBusy, begins(0, 2, offs("ann")))
	b.err(api.ErrArg, begins(64, 1, api.Op{}))
	b.err(api.ErrArg, begins(64, 0, offs("ann")))
	b.decide(api.OK)
	b.finish()
	if n := b.m.Waiting(); n != 63 {
		t.Errorf("Waiting: %d", n)
	}
	b.err(api.ErrFull, begins(64, 1, offs("ann"))) // the one that was answered stands in the table
	b.err(api.OK, begins(0, 1, offs("ann")))
	b.err(api.ErrFull, begins(0, 2, offs("ann")))
}

// TestFullTable: so many sessions are in the table, and others wait, so that it has room for one more, and then for none.
func TestFullTable(t *testing.T) {
	o := moves("w", "c", "w", "c")
	for _, known := range []int{0, 1, 2, 31, 62, 63, 64} {
		b := made(t, 1)
		for i := range known {
			b.whole(i, 1, o, api.Errno(i))
		}
		for i := known; i < 63; i++ {
			b.at(api.ErrBusy, i+1, begins(i, 1, o))
		}
		begun := max(known, 63)
		if known > 0 && known < 64 { // one that the table has, ahead of the last one that it has room for
			begun++
			b.at(api.ErrBusy, begun, begins(0, 2, o))
		}
		if known < 64 {
			begun++
			b.at(api.ErrBusy, begun, begins(63, 1, o))
		}
		for _, c := range []api.Command{begins(64, 1, o), begins(mostNumber, 1, o)} {
			b.err(api.ErrFull, c)
		}
		if known > 1 {
			b.err(api.ErrFull, begins(1, 2, o)) // of a session that the table has, too
			b.err(1, begins(1, 1, o))           // what it was answered
		}
		for b.m.Waiting() > 0 { // all of them find their room
			b.decide(77)
			b.finish()
		}
		for i := range 64 {
			c := begins(i, 1, o)
			if i == 0 && known > 0 && known < 64 {
				c.Id.Seq = 2
			}
			want := api.Errno(77)
			if i < known && c.Id.Seq == 1 {
				want = api.Errno(i)
			}
			if r := b.apply(c); !reflect.DeepEqual(r, api.Reply{Err: want}) {
				t.Errorf("%d sessions in the table: Apply(%+v): %+v, not %d", known, c, r, want)
			}
		}
		b.err(api.ErrFull, begins(64, 1, o))
		b.err(api.ErrFull, begins(5, 9, o))
	}
}
