package group_test

import (
	"fmt"
	"math"
	"rookery/api"
	"strings"
	"testing"
)

// TestCompact: if so many entries are done behind the base, and one at least, they are in it.
func TestCompact(t *testing.T) {
	c := channel(t, 1)
	for entries, want := range map[int]bool{math.MinInt: true, -1: true, 0: true, 1: true, 2: true, 3: true, 4: false, 5: false, math.MaxInt: false} {
		b := alone(t, 1, 2, fresh)
		b.did(does(1, 1, makes(c)), 2, api.Reply{})
		b.did(does(1, 2, joins(c, "ann")), 3, api.Reply{})
		b.records()
		state, _ := b.g.State()
		if b.compact(entries) != want {
			t.Errorf("Compact(%d): %v", entries, !want)
		}
		s, list := b.g.Saved(), b.records()
		if !want {
			if s.Base != 0 || len(s.Entries) != 3 || len(list) != 0 {
				t.Errorf("Compact(%d): %+v, %v", entries, s, list)
			}
			continue
		}
		if s.Base != 3 || s.BaseTerm != 1 || s.Data != state || len(s.Entries) != 0 || b.g.Done() != 3 {
			t.Errorf("Compact(%d): %+v", entries, s)
		}
		if r := (api.Record{Group: 1, Kind: api.RecBase, Index: 3, Term: 1, Data: state}); len(list) != 1 || list[0] != r {
			t.Errorf("Compact(%d): %v", entries, list)
		}
		for _, entries := range []int{-1, 0, 1, 2, 3} {
			if b.compact(entries) {
				t.Errorf("Compact(%d), a second time", entries)
			}
		}
	}
}

// TestCompactCountsFromTheBase: also from one that Saved had, and from the last one on.
func TestCompactCountsFromTheBase(t *testing.T) {
	c := channel(t, 1)
	s := api.Saved{Term: 2, Vote: -1, Base: 40, BaseTerm: 2, Entries: []api.Entry{{Term: 2}, {Term: 2, Data: put(t, does(1, 1, makes(c)))}}}
	b := made(t, 1, 2, 0, 1, s, 0)
	if b.compact(0) || b.compact(1) {
		t.Error("Compact: nothing is done yet")
	}
	for range 10 {
		b.tick(0)
	}
	if b.g.Done() != 43 || b.compact(4) || !b.compact(3) || b.compact(0) {
		t.Fatalf("Done: %d; %+v", b.g.Done(), b.g.Saved())
	}
	for i := range 9 {
		b.did(does(2, 1+i, reads(c)), 44+i, api.Reply{})
		if i%3 < 2 && b.compact(3) {
			t.Errorf("Compact(3) of %d", i%3+1)
		}
		if i%3 == 2 && !b.compact(3) {
			t.Error("Compact(3)")
		}
	}
	if base := b.g.Saved().Base; base != 52 {
		t.Errorf("the base is %d", base)
	}
}

// TestCompactLeavesWhatIsNotDone: entries that are not committed stay behind the base, and are done behind it.
func TestCompactLeavesWhatIsNotDone(t *testing.T) {
	c := channel(t, 1)
	b := made(t, 1, 2, 1, 3, fresh, 0)
	entries := []api.Entry{{Term: 1}, {Term: 1, Data: put(t, does(1, 1, makes(c)))}, {Term: 1, Data: put(t, does(1, 2, joins(c, "ann")))}}
	b.receive(api.Message{Kind: api.MsgAppend, Group: 1, From: 0, To: 1, Term: 1, Entries: entries, Commit: 2})
	if b.compact(3) || !b.compact(2) || b.compact(1) {
		t.Fatal("Compact")
	}
	if s := b.g.Saved(); s.Base != 2 || len(s.Entries) != 1 || b.g.Done() != 2 {
		t.Fatalf("%+v", s)
	}
	other := b.begin(1, 3, 0)
	for _, b := range []*both{b, other} {
		_, did := b.receive(api.Message{Kind: api.MsgAppend, Group: 1, From: 0, To: 1, Term: 1, Index: 3, At: 1, Commit: 3})
		if len(did) != 1 || did[0].Index != 3 || did[0].Command != does(1, 2, joins(c, "ann")) || did[0].Reply.Err != api.OK {
			t.Errorf("%v", did)
		}
		if !b.compact(1) {
			t.Error("Compact")
		}
	}
}

// TestCompactOfLongBytes: a machine of more than 2^17 bytes is in no base, till it has less.
func TestCompactOfLongBytes(t *testing.T) {
	plan := api.Command{Kind: api.CmdPlan, Slot: 1, Group: 2}
	frozen := api.Command{Kind: api.CmdFrozen, Plan: 1, Data: strings.Repeat("x", 1<<17)}
	room := 1<<18 - len(bytesOf(t, 0, 2, plan, frozen)) // so many bytes of Data are the most
	for more := range 3 {
		b := alone(t, 0, 2, fresh)
		b.propose(plan)
		frozen.Data = strings.Repeat("x", room-1+more)
		b.propose(frozen)
		s, _ := b.g.State()
		if len(s) != 1<<17-1+more {
			t.Fatalf("%d bytes", len(s))
		}
		if b.compact(0) != (more < 2) || b.compact(3) {
			t.Errorf("Compact of %d bytes", len(s))
		}
		b.propose(api.Command{Kind: api.CmdTaken, Plan: 1})
		if want := []int{1, 1, 4}[more]; b.compact(want+1) || !b.compact(want) {
			t.Errorf("Compact of what is behind %d bytes", len(s))
		}
	}
}

// TestCompactOfManyPosts: the same, of a group of shards: what it was asked goes on, without a base.
func TestCompactOfManyPosts(t *testing.T) {
	c := channel(t, 1)
	b := alone(t, 1, 2, fresh)
	b.did(does(1, 1, makes(c)), 2, api.Reply{})
	b.did(does(1, 2, joins(c, "ann")), 3, api.Reply{})
	text := strings.Repeat("x", api.MaxText)
	for i := range 140 {
		b.did(does(1, 3+i, posts(c, "ann", text)), 4+i, api.Reply{At: i})
		if i < 120 && !b.compact(1) || i > 130 && b.compact(1) {
			t.Fatalf("Compact of %d posts", i+1)
		}
	}
	s := b.g.Saved()
	if s.Base < 123 || s.Base > 134 || len(s.Data) > 1<<17 || s.Base+len(s.Entries) != 143 {
		t.Errorf("the base is %d, of %d bytes", s.Base, len(s.Data))
	}
}

// TestBegunAnew: a part that begins as another one was saved does the same from its base on, behind each step.
func TestBegunAnew(t *testing.T) {
	c := channel(t, 1)
	b := alone(t, 1, 2, fresh)
	for i := range 30 {
		o := posts(c, "ann", fmt.Sprint("number ", i))
		if i < 2 {
			o = []api.Op{makes(c), joins(c, "ann")}[i]
		}
		b.propose(does(1, 1+i, o))
		b.compact(7)
		other := b.begin(0, 1, i)
		base := b.g.Saved().Base
		if other.g.Done() != base {
			t.Fatalf("Done: %d, not %d", other.g.Done(), base)
		}
		var last int
		for !other.g.Leads() {
			_, did := other.tick(0)
			for k, x := range did {
				if x.Index != base+1+k {
					t.Fatalf("%d is done behind %d", x.Index, base)
				}
				last = x.Index
			}
		}
		state, _ := b.g.State()
		if now, _ := other.g.State(); now != state || last != b.g.Done()+1 {
			t.Fatalf("State: %q, not %q; %d are done", now, state, last)
		}
		if i%4 == 3 {
			b = other
		}
	}
}
