package meta_test

import (
	"reflect"
	"rookery/api"
	"rookery/meta"
	"runtime"
	"strings"
	"testing"
)

// TestNew: up to the last number of groups and one more, and who has which slot then.
func TestNew(t *testing.T) {
	for groups := 1; groups <= api.MaxGroups-1; groups++ {
		b := made(t, groups)
		for slot := range 16 {
			if group, epoch, e := b.m.Owner(slot); group != 1+slot*groups/16 || epoch != 1 || e != api.OK {
				t.Errorf("New(%d), Owner(%d): %d, %d, %d", groups, slot, group, epoch, e)
			}
		}
		if d, ok := b.m.Todo(); ok || !reflect.DeepEqual(d, meta.Todo{}) {
			t.Errorf("New(%d), Todo: %+v, %t", groups, d, ok)
		}
		if p, ok := b.m.Plan(); ok || p != (meta.Plan{}) {
			t.Errorf("New(%d), Plan: %+v, %t", groups, p, ok)
		}
		if n := b.m.Waiting(); n != 0 {
			t.Errorf("New(%d), Waiting: %d", groups, n)
		}
	}
	for _, groups := range append([]int{-1, 0, api.MaxGroups, api.MaxGroups + 1, 16}, beyond...) {
		if m, e := meta.New(groups); m != nil || e != api.ErrArg {
			t.Errorf("New(%d): %v, %d", groups, m, e)
		}
	}
}

// TestOwnerOfNone: slots that are none.
func TestOwnerOfNone(t *testing.T) {
	b := made(t, 8)
	for _, slot := range append([]int{-1, 16, 17, 256}, beyond...) {
		if group, epoch, e := b.m.Owner(slot); group != 0 || epoch != 0 || e != api.ErrArg {
			t.Errorf("Owner(%d): %d, %d, %d", slot, group, epoch, e)
		}
	}
}

// full is a command of a kind, with all else in it that might be.
func full(kind int) api.Command {
	return api.Command{Kind: kind, Id: api.Id{Session: 5, Seq: 1}, Op: closes("w"), Tx: 1, Plan: 1, Slot: 3, Epoch: 1, Group: 2, Ok: true, Data: "x"}
}

// TestKinds: each kind that is one of these, and others.
func TestKinds(t *testing.T) {
	for kind, want := range map[int]api.Reply{
		api.CmdNone:   {},
		api.CmdBegin:  {Err: api.ErrBusy, At: 1},
		api.CmdVoted:  {Err: api.ErrNone},
		api.CmdEnded:  {Err: api.ErrNone},
		api.CmdPlan:   {At: 1},
		api.CmdFrozen: {Err: api.ErrNone},
		api.CmdTaken:  {Err: api.ErrNone},
		api.CmdOp:     {Err: api.ErrArg},
		api.CmdLock:   {Err: api.ErrArg},
		api.CmdFinish: {Err: api.ErrArg},
		api.CmdFreeze: {Err: api.ErrArg},
		api.CmdTake:   {Err: api.ErrArg},
	} {
		b := made(t, 2)
		if r := b.apply(full(kind)); !reflect.DeepEqual(r, want) {
			t.Errorf("kind %d: %+v, not %+v", kind, r, want)
		}
	}
	b := lively(t)
	for _, kind := range append([]int{-1, api.CmdTaken + 1, api.CmdTaken + 2, 100}, beyond...) {
		b.err(api.ErrArg, full(kind))
	}
	for _, kind := range []int{api.CmdOp, api.CmdLock, api.CmdFinish, api.CmdFreeze, api.CmdTake} {
		b.err(api.ErrArg, full(kind))
	}
	b.err(api.OK, full(api.CmdNone))
	b.err(api.OK, api.Command{})
	b.err(api.OK, api.Command{Kind: api.CmdNone, Id: api.Id{Session: -1, Seq: -1}, Tx: -1, Plan: -1, Slot: -1, Epoch: -1, Group: -1, Err: -1})
}

// TestFieldsOfOtherKinds: what a kind has no use for changes nothing.
func TestFieldsOfOtherKinds(t *testing.T) {
	b := made(t, 2)
	odd := func(c api.Command) api.Command {
		c.Epoch, c.Ok = -9, true
		switch c.Kind {
		case api.CmdBegin:
			c.Tx, c.Plan, c.Slot, c.Group, c.Err, c.Data = -1, -2, -3, -4, -5, "x"
		case api.CmdVoted:
			c.Id, c.Op, c.Plan, c.Group = api.Id{Session: -1}, api.Op{Kind: -1}, -2, -4
		case api.CmdEnded:
			c.Id, c.Op, c.Plan, c.Group, c.Err, c.Data = api.Id{Session: -1}, api.Op{Kind: -1}, -2, -4, -5, "x"
		case api.CmdPlan:
			c.Id, c.Op, c.Tx, c.Plan, c.Err, c.Data = api.Id{Session: -1}, api.Op{Kind: -1}, -1, -2, -5, "x"
		default:
			c.Id, c.Op, c.Tx, c.Slot, c.Group, c.Err = api.Id{Session: -1}, api.Op{Kind: -1}, -1, -3, -4, -5
		}
		return c
	}
	b.at(api.ErrBusy, 1, odd(begins(5, 1, closes("w"))))
	for slot := range 16 {
		b.err(api.OK, odd(votes(1, slot, api.OK)))
	}
	b.todo(1, true, true, "", 0, 1, 2, 3, 4, 5, 6, 7, 8, 9, 10, 11, 12, 13, 14, 15)
	for slot := range 16 {
		b.err(api.OK, odd(ends(1, slot)))
	}
	b.err(api.OK, odd(begins(5, 1, closes("w"))))
	b.at(api.OK, 1, odd(plans(3, 2)))
	b.err(api.OK, odd(freezes(1, "")))
	b.err(api.OK, odd(takes(1)))
}

// TestMachinesThatNobodyGave: ErrArg, false, 0, nothing.
func TestMachinesThatNobodyGave(t *testing.T) {
	var zero meta.Machine
	for _, m := range []*meta.Machine{nil, &zero, {}, new(meta.Machine)} {
		for kind := -1; kind <= api.CmdTaken+1; kind++ {
			for _, c := range []api.Command{{Kind: kind}, full(kind)} {
				if r := m.Apply(c); !reflect.DeepEqual(r, api.Reply{Err: api.ErrArg}) {
					t.Errorf("Apply(%+v): %+v", c, r)
				}
			}
		}
		for _, slot := range []int{-1, 0, 15, 16} {
			if group, epoch, e := m.Owner(slot); group != 0 || epoch != 0 || e != api.ErrArg {
				t.Errorf("Owner(%d): %d, %d, %d", slot, group, epoch, e)
			}
		}
		if d, ok := m.Todo(); ok || !reflect.DeepEqual(d, meta.Todo{}) {
			t.Errorf("Todo: %+v, %t", d, ok)
		}
		if p, ok := m.Plan(); ok || p != (meta.Plan{}) {
			t.Errorf("Plan: %+v, %t", p, ok)
		}
		if n := m.Waiting(); n != 0 {
			t.Errorf("Waiting: %d", n)
		}
		if s, e := m.Bytes(); s != "" || e != api.ErrArg {
			t.Errorf("Bytes: %q, %d", s, e)
		}
	}
}

// TestWhatIsHandedOutIsTheMachinesOwn: a caller that changes an answer changes nothing in the machine, nor another answer.
func TestWhatIsHandedOutIsTheMachinesOwn(t *testing.T) {
	b := made(t, 2)
	b.at(api.ErrBusy, 1, begins(5, 1, closes("w")))
	for range 2 { // while it waits for votes, and for ends
		a, _ := b.m.Todo()
		c, _ := b.m.Todo()
		for i := range a.Slots {
			a.Slots[i] = 99
		}
		_ = append(a.Slots[:1], 77, 77, 77)
		a.Op.Space, a.Id.Seq, a.Data = "v", 7, "x"
		if c.Slots[0] == 99 || c.Slots[1] == 77 {
			t.Errorf("Todo: two answers share a list: %v", c.Slots)
		}
		b.same(b.m)
		b.decide(api.OK)
	}
	b.finish()
	r := b.m.Apply(begins(5, 1, closes("w")))
	r.Err, r.At, r.Posts = 9, 9, append(r.Posts, api.Post{})
	b.err(api.OK, begins(5, 1, closes("w")))
}

// TestTwoMachines: neither knows of the other, also if one is made of the other one's bytes.
func TestTwoMachines(t *testing.T) {
	a := lively(t)
	c := &both{t, back(t, a.m), lively(t).p}
	was := bytes(t, a.m)
	c.decide(api.ErrNone)
	c.finish()
	c.at(api.ErrBusy, c.p.begun+1, begins(50, 1, offs("zoe")))
	c.err(api.OK, takes(c.p.plan.Plan))
	c.at(api.OK, c.p.plans+1, plans(9, 1))
	if s := bytes(t, a.m); s != was {
		t.Errorf("what was done to the machine of the bytes changed the other one: %q, then %q", was, s)
	}
	a.same(a.m)
	n := made(t, 2)
	n.at(api.ErrBusy, 1, begins(50, 1, offs("zoe")))
	a.same(a.m)
}

// TestWhatIsKept: of texts that are handed in no more than they are, though they are small pieces of long ones.
func TestWhatIsKept(t *testing.T) {
	piece := func(s string) string { return strings.Repeat(s, 1<<20)[:len(s)] }
	list := []*meta.Machine{}
	for range 20 {
		m, _ := meta.New(2)
		m.Apply(begins(1, 1, moves(piece("w"), piece("c"), piece("v"), piece("d"))))
		m.Apply(begins(2, 1, closes(piece("w"))))
		m.Apply(begins(3, 1, offs(piece("ann"))))
		d, _ := m.Todo()
		m.Apply(votesWith(1, d.Slots[0], api.OK, piece("data")))
		m.Apply(plans(0, 2))
		m.Apply(freezes(1, piece("data")))
		s, _ := m.Bytes()
		n, e := meta.From((s + strings.Repeat("x", 1<<20))[:len(s)])
		if e != api.OK {
			t.Fatal(e)
		}
		list = append(list, m, n)
	}
	runtime.GC()
	var now runtime.MemStats
	runtime.ReadMemStats(&now)
	if now.HeapAlloc > 10<<20 {
		t.Errorf("%d machines, and all else, keep %d bytes", len(list), now.HeapAlloc)
	}
	for _, m := range list {
		if m.Waiting() != 3 {
			t.Errorf("Waiting: %d", m.Waiting())
		}
	}
}
