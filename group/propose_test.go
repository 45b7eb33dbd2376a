package group_test

import (
	"rookery/api"
	"rookery/command"
	"rookery/group"
	"slices"
	"strings"
	"testing"
)

// alone is a part whose group has no other node, and that leads.
func alone(t *testing.T, of, groups int, s api.Saved) *both {
	t.Helper()
	b := made(t, of, groups, 0, 1, s, 0)
	for range 10 {
		b.tick(0)
	}
	if !b.g.Leads() {
		t.Fatal("it does not lead")
	}
	return b
}

// did asks that an entry alone is done by a command, and what comes of it.
func (b *both) did(c api.Command, index int, reply api.Reply) {
	b.Helper()
	n, out, list, e := b.propose(c)
	if n != index || len(out) != 0 || e != api.OK || !sameApplied(list, []group.Applied{{Index: index, Command: c, Reply: reply}}) {
		b.Fatalf("Propose(%+v): %d, %v, %+v, %d, not %d, %+v", c, n, out, list, e, index, reply)
	}
}

// TestOneNode: it elects itself with its tenth tick; what it is asked is done at once, each entry once, in order.
func TestOneNode(t *testing.T) {
	c := channel(t, 1)
	b := made(t, 1, 2, 0, 1, fresh, 0)
	for i := range 9 {
		if out, list := b.tick(0); len(out)+len(list) != 0 || b.g.Leads() || b.g.Done() != 0 {
			t.Fatalf("tick %d: %v, %v", i, out, list)
		}
	}
	if out, list := b.tick(0); len(out) != 0 || !sameApplied(list, []group.Applied{{Index: 1}}) || !b.g.Leads() || b.g.Done() != 1 {
		t.Fatalf("%v, %v", out, list)
	}
	b.did(does(1, 1, makes(c)), 2, api.Reply{})
	b.did(does(1, 2, joins(c, "ann")), 3, api.Reply{})
	b.did(does(1, 3, posts(c, "ann", "hi")), 4, api.Reply{})
	b.did(does(1, 3, posts(c, "ann", "hi")), 5, api.Reply{}) // it is answered so again
	b.did(does(1, 2, posts(c, "ann", "hi")), 6, api.Reply{Err: api.ErrOld})
	b.did(does(1, 4, posts(c, "ann", "you")), 7, api.Reply{At: 1})
	b.did(does(2, 1, posts(c, "bob", "hi")), 8, api.Reply{Err: api.ErrMember})
	b.did(does(2, 2, reads(c)), 9, api.Reply{At: 2, Posts: []api.Post{{User: "ann", Text: "hi"}, {User: "ann", Text: "you"}}})
	b.did(does(2, 3, makes(channel(t, 2))), 10, api.Reply{Err: api.ErrStale})
	for range 30 {
		if out, list := b.tick(7); len(out)+len(list) != 0 {
			t.Errorf("%v, %v", out, list)
		}
	}
	records := b.records()
	if len(records) != 11 || records[0].Kind != api.RecHard || len(b.records()) != 0 {
		t.Errorf("Records: %v", records)
	}
}

// TestMetaGroup: the group 0 does what layer 14 does.
func TestMetaGroup(t *testing.T) {
	b := alone(t, 0, 2, fresh)
	b.did(begins(5, 1, closes("w")), 2, api.Reply{Err: api.ErrBusy, At: 1})
	for slot := range 16 {
		b.did(api.Command{Kind: api.CmdVoted, Tx: 1, Slot: slot}, 3+slot, api.Reply{})
	}
	b.did(begins(5, 1, closes("w")), 19, api.Reply{Err: api.ErrBusy})
	for slot := range 16 {
		b.did(api.Command{Kind: api.CmdEnded, Tx: 1, Slot: slot}, 20+slot, api.Reply{})
	}
	b.did(begins(5, 1, closes("w")), 36, api.Reply{})
	b.did(api.Command{Kind: api.CmdPlan, Slot: 3, Group: 3}, 37, api.Reply{Err: api.ErrArg}) // there are two
	b.did(api.Command{Kind: api.CmdPlan, Slot: 3, Group: 2}, 38, api.Reply{At: 1})
	b.did(does(1, 1, makes("c")), 39, api.Reply{Err: api.ErrArg})
}

// TestData: what layer 13 tells beside its reply is told.
func TestData(t *testing.T) {
	one, two := alone(t, 1, 2, fresh), alone(t, 2, 2, fresh)
	freeze := api.Command{Kind: api.CmdFreeze, Plan: 1, Slot: 6, Epoch: 1}
	_, _, list, _ := one.propose(freeze)
	if len(list) != 1 || list[0].Data == "" || list[0].Reply.Err != api.OK {
		t.Fatalf("%+v", list)
	}
	take := api.Command{Kind: api.CmdTake, Plan: 1, Slot: 6, Epoch: 2, Data: list[0].Data}
	two.did(take, 2, api.Reply{})
	take.Data += "x"
	take.Slot, take.Epoch = 5, 9
	two.did(take, 3, api.Reply{Err: api.ErrCommand})
}

// TestEachKind: commands of each kind, and of none, with each field, in each group: what comes of them is what its machine makes.
func TestEachKind(t *testing.T) {
	c := channel(t, 1)
	for of := range 3 {
		b := alone(t, of, 2, fresh)
		ops := []api.Op{{}, makes(c), joins(c, "ann"), reads(c), closes("w"), offs("ann"),
			{Kind: api.OpMove, Space: "w", Channel: c, ToSpace: "v", To: "d"}, {Kind: 77}}
		slot := does(1, 1, makes(c)).Slot
		for kind := range 20 {
			for _, o := range ops {
				b.propose(api.Command{Kind: kind, Id: api.Id{Session: 1 + kind, Seq: 1}, Op: o, Tx: 1, Plan: 1, Slot: slot, Epoch: 1, Group: 2, Ok: kind%2 == 0, Err: api.ErrNone})
			}
		}
		b.propose(api.Command{Kind: api.MaxIndex, Slot: api.MaxIndex, Err: api.MaxIndex})
		if b.g.Done() != 2+20*len(ops) {
			t.Errorf("Done: %d", b.g.Done())
		}
	}
}

// TestProposeRefused: where a part doesn't lead, where the command has what may not be, where its bytes are too many for an entry; nothing is changed then.
func TestProposeRefused(t *testing.T) {
	long := strings.Repeat("x", api.MaxRecord)
	room := api.MaxRecord - len(put(t, api.Command{Data: long})) + len(long)
	leads, follows := alone(t, 1, 2, fresh), made(t, 1, 2, 1, 3, fresh, 5)
	leads.records()
	for _, c := range []api.Command{{Kind: -1}, {Tx: -1}, {Plan: api.MaxIndex + 1}, {Slot: -1}, {Err: -1}, {Id: api.Id{Seq: -1}}, {Op: api.Op{Most: -1}}, {Data: long + "x"}, {Op: api.Op{Text: long + "x"}}} {
		for _, b := range []*both{leads, follows} {
			if n, out, list, e := b.propose(c); n != 0 || out != nil || list != nil || e != api.ErrArg {
				t.Errorf("Propose: %d, %v, %v, %d", n, out, list, e)
			}
		}
	}
	for _, c := range []api.Command{{}, does(1, 1, makes("c")), {Data: long[:room]}} {
		if n, out, list, e := follows.propose(c); n != 0 || out != nil || list != nil || e != api.ErrLead {
			t.Errorf("Propose: %d, %v, %v, %d", n, out, list, e)
		}
	}
	for _, c := range []api.Command{{Data: long[:room+1]}, {Data: long}} {
		if _, _, _, e := leads.propose(c); e != api.ErrArg {
			t.Errorf("Propose of %d bytes: %d", len(put(t, c)), e)
		}
		if _, _, _, e := follows.propose(c); e != api.ErrLead { // as layer 7 answers it
			t.Errorf("Propose of %d bytes: %d", len(put(t, c)), e)
		}
	}
	if len(leads.records())+len(follows.records()) != 0 || leads.g.Done() != 1 {
		t.Error("something was done")
	}
	leads.did(api.Command{Data: long[:room]}, 2, api.Reply{})
	follows.receive(api.Message{Kind: api.MsgVote, Group: 1, From: 0, To: 1, Term: 1})
	if _, _, _, e := follows.propose(api.Command{}); e != api.ErrLead {
		t.Errorf("Propose: %d", e)
	}
}

// TestFullLog: what the log refuses is not done; layer 7 answers its last index.
func TestFullLog(t *testing.T) {
	c := channel(t, 1)
	s := api.Saved{Term: 2, Vote: -1, Base: api.MaxIndex - 2, BaseTerm: 2}
	b := alone(t, 1, 2, s)
	b.did(does(1, 1, makes(c)), api.MaxIndex, api.Reply{})
	b.records()
	state, _ := b.g.State()
	for range 3 {
		n, out, list, e := b.propose(does(1, 2, joins(c, "ann")))
		if n != api.MaxIndex || len(out)+len(list) != 0 || e != api.OK || b.g.Done() != api.MaxIndex {
			t.Errorf("Propose: %d, %v, %v, %d", n, out, list, e)
		}
	}
	if now, _ := b.g.State(); now != state || len(b.records()) != 0 {
		t.Error("something was done")
	}
	if !b.compact(2) || b.compact(0) {
		t.Error("Compact of the last one")
	}
	s.Base = api.MaxIndex
	b = alone(t, 1, 2, s)
	if n, _, list, e := b.propose(does(1, 1, makes(c))); n != api.MaxIndex || len(list) != 0 || e != api.OK || b.compact(0) {
		t.Errorf("Propose: %d, %v, %d", n, list, e)
	}
}

// TestProposeAmongOthers: what others have to have, too, is done when they have it, and what they need is sent to them.
func TestProposeAmongOthers(t *testing.T) {
	c := channel(t, 1)
	b := made(t, 1, 2, 0, 3, fresh, 0)
	for range 10 {
		b.tick(0)
	}
	b.receive(api.Message{Kind: api.MsgVoted, Group: 1, From: 1, To: 0, Term: 1, Ok: true})
	var list []api.Command
	for i, o := range []api.Op{makes(c), joins(c, "ann"), posts(c, "ann", "hi")} {
		list = append(list, does(1, 1+i, o))
		n, out, did, e := b.propose(list[i])
		if n != 2+i || len(out) != 2 || len(did) != 0 || e != api.OK || b.g.Done() != 0 {
			t.Fatalf("Propose: %d, %v, %v, %d", n, out, did, e)
		}
	}
	// Its tick tells what is proposed, as layer 12 has it.
	out, _ := b.tick(0)
	if i := slices.IndexFunc(out[0].Entries, func(x api.Entry) bool { return x.Data == put(t, list[2]) }); i != 3 {
		t.Errorf("%v", out)
	}
	_, did := b.receive(api.Message{Kind: api.MsgAppended, Group: 1, From: 2, To: 0, Term: 1, Ok: true, Index: 3})
	if want := []group.Applied{{Index: 1}, {Index: 2, Command: list[0]}, {Index: 3, Command: list[1]}}; !sameApplied(did, want) || b.g.Done() != 3 {
		t.Errorf("%v, not %v", did, want)
	}
	_, did = b.receive(api.Message{Kind: api.MsgAppended, Group: 1, From: 1, To: 0, Term: 1, Ok: true, Index: 3})
	if len(did) != 0 {
		t.Errorf("again: %v", did)
	}
	_, did = b.receive(api.Message{Kind: api.MsgAppended, Group: 1, From: 1, To: 0, Term: 1, Ok: true, Index: 4})
	if want := []group.Applied{{Index: 4, Command: list[2]}}; !sameApplied(did, want) || b.g.Done() != 4 {
		t.Errorf("%v, not %v", did, want)
	}
}

// TestEntriesCut: what was never committed is never done.
func TestEntriesCut(t *testing.T) {
	b := made(t, 1, 2, 1, 3, fresh, 0)
	c := channel(t, 1)
	data := func(seq int, o api.Op) string {
		s, _ := command.Put(does(1, seq, o))
		return s
	}
	lost := []api.Entry{{Term: 1}, {Term: 1, Data: data(1, makes(c))}, {Term: 1, Data: data(2, joins(c, "ann"))}, {Term: 1, Data: data(3, joins(c, "bob"))}}
	b.receive(api.Message{Kind: api.MsgAppend, Group: 1, From: 0, To: 1, Term: 1, Entries: lost, Commit: 2})
	if b.g.Done() != 2 {
		t.Fatalf("Done: %d", b.g.Done())
	}
	kept := []api.Entry{{Term: 2}, {Term: 2, Data: data(2, joins(c, "eve"))}}
	_, did := b.receive(api.Message{Kind: api.MsgAppend, Group: 1, From: 2, To: 1, Term: 2, Index: 2, At: 1, Entries: kept, Commit: 2})
	if len(did) != 0 {
		t.Errorf("%v", did)
	}
	_, did = b.receive(api.Message{Kind: api.MsgAppend, Group: 1, From: 2, To: 1, Term: 2, Index: 4, At: 2, Commit: 9})
	if want := []group.Applied{{Index: 3}, {Index: 4, Command: does(1, 2, joins(c, "eve"))}}; !sameApplied(did, want) {
		t.Errorf("%v, not %v", did, want)
	}
	if s, _ := b.g.State(); s != bytesOf(t, 1, 2, does(1, 1, makes(c)), does(1, 2, joins(c, "eve"))) {
		t.Errorf("State: %q", s)
	}
}
