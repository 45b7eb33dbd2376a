package group_test

import (
	"rookery/api"
	"rookery/group"
	"runtime"
	"strings"
	"testing"
)

// spoil writes over all that a list has, and into the room behind its end.
func spoil[T any](list []T) {
	var nothing T
	all := list[:cap(list)]
	for i := range all {
		all[i] = nothing
	}
}

// TestWhatIsHandedInIsNotKept: the caller's lists are written over behind each call.
func TestWhatIsHandedInIsNotKept(t *testing.T) {
	c := channel(t, 1)
	entries := func() []api.Entry {
		return append(make([]api.Entry, 0, 9), api.Entry{Term: 1}, api.Entry{Term: 1, Data: put(t, does(1, 1, makes(c)))})
	}
	s := api.Saved{Term: 1, Vote: -1, Entries: entries()}
	g, e := group.New(1, 2, 1, 3, s, 0)
	need(t, "New", e, api.OK)
	spoil(s.Entries)
	if got := g.Saved(); !sameSaved(got, api.Saved{Term: 1, Vote: -1, Entries: entries()}) {
		t.Errorf("Saved: %+v", got)
	}
	m := appends(1, 1, 2, 1, 0, entries()...)
	g.Receive(m)
	spoil(m.Entries)
	_, did := g.Receive(appends(1, 1, 4, 1, 4))
	want := []group.Applied{{Index: 1}, {Index: 2, Command: does(1, 1, makes(c))}, {Index: 3}, {Index: 4, Command: does(1, 1, makes(c))}}
	if !sameApplied(did, want) {
		t.Errorf("%v, not %v", did, want)
	}
	// Nor is what stands in the room behind a list's end an entry.
	m = appends(1, 1, 4, 1, 9, entries()...)
	m.Entries = m.Entries[:1]
	if _, did := g.Receive(m); len(did) != 1 || g.Done() != 5 {
		t.Errorf("%v", did)
	}
}

// TestWhatIsHandedOutIsNotKept: the part's lists are written over by who has them.
func TestWhatIsHandedOutIsNotKept(t *testing.T) {
	c := channel(t, 1)
	b := made(t, 1, 2, 0, 3, fresh, 0)
	for range 9 {
		b.tick(0)
	}
	list := []api.Command{does(1, 1, makes(c)), does(1, 2, joins(c, "ann")), does(1, 3, posts(c, "ann", "hi")), does(1, 4, reads(c)), does(1, 4, reads(c))}
	write := func(out []api.Message, did []group.Applied) {
		for _, m := range out {
			spoil(m.Entries)
		}
		for _, x := range did {
			spoil(x.Reply.Posts)
		}
		spoil(out)
		spoil(did)
		s := b.g.Saved()
		spoil(s.Entries)
		spoil(b.records())
	}
	write(b.tick(0))
	write(b.receive(api.Message{Kind: api.MsgVoted, Group: 1, From: 1, To: 0, Term: 1, Ok: true}))
	for i, c := range list {
		_, out, did, _ := b.propose(c)
		write(out, did)
		write(b.tick(0))
		write(b.receive(api.Message{Kind: api.MsgAppended, Group: 1, From: 1, To: 0, Term: 1, Ok: true, Index: 2 + i}))
	}
	if !b.compact(6) {
		t.Error("Compact")
	}
	b.begin(0, 3, 0)
	_, _, _, _ = b.propose(list[3])
	_, did := b.receive(api.Message{Kind: api.MsgAppended, Group: 1, From: 2, To: 0, Term: 1, Ok: true, Index: 7})
	if len(did) != 1 || len(did[0].Reply.Posts) != 1 || did[0].Reply.Posts[0].Text != "hi" {
		t.Errorf("%+v", did)
	}
}

// TestListsOfOneAnswer: no two of them share memory, nor does one of another answer.
func TestListsOfOneAnswer(t *testing.T) {
	c := channel(t, 1)
	b := made(t, 1, 2, 0, 3, fresh, 0)
	for range 10 {
		b.tick(0)
	}
	b.receive(api.Message{Kind: api.MsgVoted, Group: 1, From: 1, To: 0, Term: 1, Ok: true})
	for i, o := range []api.Op{makes(c), joins(c, "ann"), posts(c, "ann", "hi"), reads(c), reads(c)} {
		b.propose(does(1, 1+min(i, 3), o))
	}
	out, _ := b.tick(0)
	_, did := b.receive(api.Message{Kind: api.MsgAppended, Group: 1, From: 1, To: 0, Term: 1, Ok: true, Index: 6})
	if len(out) != 2 || len(did) != 6 || len(did[4].Reply.Posts) != 1 || len(did[5].Reply.Posts) != 1 {
		t.Fatalf("%v, %v", out, did)
	}
	if &out[0].Entries[0] == &out[1].Entries[0] || &did[4].Reply.Posts[0] == &did[5].Reply.Posts[0] {
		t.Error("lists share memory")
	}
	if s, again := b.g.Saved(), b.g.Saved(); &s.Entries[0] == &again.Entries[0] {
		t.Error("Saved is handed out twice")
	}
}

// TestGroupsBesideOneAnother: a node's parts of different groups know nothing of each other, whatever comes to them.
func TestGroupsBesideOneAnother(t *testing.T) {
	c := channel(t, 1)
	list := []api.Command{begins(1, 1, closes("w")), does(1, 1, makes(c)), {Kind: api.CmdLock, Tx: 1, Slot: 9, Op: offs("ann")}}
	var parts [2][3]*both
	for node := range 2 {
		for of := range 3 {
			parts[node][of] = made(t, of, 2, node, 2, fresh, 7*node)
		}
	}
	did := map[int][]group.Applied{}
	var under []api.Message
	for of, b := range parts[0] {
		for range 10 {
			out, _ := b.tick(0)
			under = append(under, out...)
		}
		for len(under) > 0 {
			m := under[0]
			under = under[1:]
			if m.Group != of {
				t.Fatalf("the group %d sends %v", of, m)
			}
			for other, b := range parts[m.To] {
				out, done := b.receive(m)
				if other != of && len(out)+len(done) != 0 {
					t.Fatalf("the group %d did %v", other, m)
				}
				under = append(under, out...)
				if m.To == 0 {
					did[other] = append(did[other], done...)
				}
			}
			if len(under) == 0 && len(did[of]) < 2 {
				_, out, _, e := b.propose(list[of])
				need(t, "Propose", e, api.OK)
				under = out
			}
		}
	}
	for of, c := range list {
		want := bytesOf(t, of, 2, c)
		if len(did[of]) != 2 || did[of][1].Command != c {
			t.Errorf("the group %d did %v", of, did[of])
		}
		if s, _ := parts[0][of].g.State(); s != want {
			t.Errorf("State of %d: %q, not %q", of, s, want)
		}
		if out, _ := parts[1][of].tick(0); len(out) != 0 || parts[1][of].g.Done() != 1 || parts[1][of].g.Leads() {
			t.Errorf("the group %d on the other node did %d", of, parts[1][of].g.Done())
		}
	}
}

// TestWhatIsKept: of what is done, compacted and told as records nothing is kept but what the machine has; nor of a long text of which a piece came in.
func TestWhatIsKept(t *testing.T) {
	b := struct{ g *group.Group }{}
	var e api.Errno
	b.g, e = group.New(1, 2, 1, 3, fresh, 0)
	need(t, "New", e, api.OK)
	before := heap()
	for round := range 8 {
		var list []api.Entry
		for range 16 {
			list = append(list, api.Entry{Term: 1, Data: strings.Repeat("x", api.MaxRecord)})
		}
		index := 16 * round
		b.g.Receive(appends(1, 1, index, min(index, 1), index+15, list...))
		b.g.Compact(1)
		b.g.Records()
	}
	b.g.Receive(appends(1, 1, 128, 1, 127, api.Entry{Term: 1}))
	if kept := heap() - before; kept > 2*api.MaxRecord {
		t.Errorf("%d bytes are kept", kept)
	}
	b.g.Receive(appends(1, 2, 127, 1, 127, api.Entry{Term: 2})) // what stood at 128 is cut
	b.g.Records()
	if kept := heap() - before; kept > api.MaxRecord/2 {
		t.Errorf("%d bytes are kept behind the cut", kept)
	}
	if b.g.Done() != 127 {
		t.Errorf("Done: %d", b.g.Done())
	}
}

// heap is how many bytes are in use.
func heap() int {
	var m runtime.MemStats
	runtime.GC()
	runtime.ReadMemStats(&m)
	return int(m.HeapAlloc)
}
