package raft_test

import (
	"math"
	"rookery/api"
	"rookery/raft"
	"testing"
)

// proposes asks how Propose is answered.
func proposes(t *testing.T, what string, n *raft.Node, data string, index, term int, e api.Errno, want ...api.Message) {
	t.Helper()
	i, k, out, f := n.Propose(data)
	if i != index || k != term || f != e {
		t.Errorf("%s: Propose: %d, %d, %d, not %d, %d, %d", what, i, k, f, index, term, e)
	}
	sends(t, what, out, want...)
}

func TestProposeOfALeader(t *testing.T) {
	s := saved(4, 7, 2, 2, 3)
	n := leader(t, 1, 3, s)
	n.Records()
	x, a, b := api.Entry{Term: 5}, api.Entry{Term: 5, Data: "a"}, api.Entry{Term: 5}
	proposes(t, "first", n, "a", 11, 5, api.OK, appends(1, 0, 5, 9, 3, 7, x, a), appends(1, 2, 5, 9, 3, 7, x, a))
	records(t, "first", n, entryRecord(11, 5, "a"))
	n.Receive(appended(2, 1, 5, true, 11))
	proposes(t, "without data", n, "", 12, 5, api.OK, appends(1, 0, 5, 9, 3, 11, x, a, b), appends(1, 2, 5, 11, 5, 11, b))
	records(t, "without data", n, entryRecord(12, 5, ""))
	is(t, "both", n, api.Leader, 1, 11, 10, more(with(s, 5, 1), x, a, b))
	c := api.Entry{Term: 5, Data: long[1:]}
	proposes(t, "much data", n, long[1:], 13, 5, api.OK, appends(1, 0, 5, 9, 3, 11, x, a, b, c), appends(1, 2, 5, 11, 5, 11, b, c))
}

func TestProposeOfOneNodeIsCommittedAtOnce(t *testing.T) {
	n := leader(t, 0, 1, saved(4, 0, 0))
	n.Records()
	for index := 2; index < 40; index++ {
		proposes(t, "one node", n, "a", index, 5, api.OK)
		if n.Commit() != index {
			t.Errorf("commit %d, not %d", n.Commit(), index)
		}
		records(t, "one node", n, entryRecord(index, 5, "a"))
	}
}

func TestProposeRefused(t *testing.T) {
	s := saved(4, 7, 2, 2, 3)
	follower := begun(t, 1, 3, s)
	led := begun(t, 1, 3, s)
	led.Receive(appends(2, 1, 4, 9, 3, 9))
	stands := candidate(t, 1, 3, s)
	leads := leader(t, 1, 3, s)
	was := leader(t, 1, 3, s)
	was.Receive(voted(2, 1, 6, false))
	for what, c := range map[string]struct {
		n    *raft.Node
		data string
		e    api.Errno
	}{
		"a follower": {follower, "a", api.ErrLead}, "a follower, too much data": {follower, long, api.ErrLead},
		"one that is led": {led, "a", api.ErrLead}, "a candidate": {stands, "a", api.ErrLead}, "a candidate, too much data": {stands, long, api.ErrLead},
		"one that led": {was, "a", api.ErrLead}, "a leader, too much data": {leads, long, api.ErrArg},
	} {
		before := tell(c.n)
		c.n.Records()
		proposes(t, what, c.n, c.data, 0, 0, c.e)
		if now := tell(c.n); now != before {
			t.Errorf("%s: %s, not %s", what, now, before)
		}
		records(t, what, c.n)
	}
}

// A full log takes nothing more: its node still leads, and answers what is proposed as if it were the last one.
func TestALogUpToTheHighestIndex(t *testing.T) {
	const most = 1 << 40
	for _, base := range []int{most, most - 1, most - 2} {
		s := saved(4, base, 2)
		n := begun(t, 0, 3, s)
		for range 10 {
			n.Tick(0)
		}
		n.Receive(voted(1, 0, 5, true))
		s = with(s, 5, 0)
		if base < most {
			s = more(s, api.Entry{Term: 5})
		}
		is(t, "leading", n, api.Leader, 0, base, 10, s)
		for index := base + 2; index <= most; index++ {
			n.Propose("more")
			s = more(s, api.Entry{Term: 5, Data: "more"})
		}
		n.Records()
		proposes(t, "full", n, "a", most, 5, api.OK, appends(0, 1, 5, base, 2, base, s.Entries...), appends(0, 2, 5, base, 2, base, s.Entries...))
		proposes(t, "full, too much data", n, long, 0, 0, api.ErrArg)
		is(t, "full", n, api.Leader, 0, base, 10, s)
		records(t, "full", n)
		n.Receive(appended(1, 0, 5, true, most))
		if want := most; n.Commit() != want {
			t.Errorf("base %d: commit %d", base, n.Commit())
		}
		for _, m := range n.Tick(0) {
			if m.Kind != api.MsgAppend || m.Index > most {
				t.Errorf("base %d: %+v", base, m)
			}
		}
	}
}

func TestProposeOfOneNodeWithAFullLog(t *testing.T) {
	const most = 1 << 40
	s := saved(4, most, 2)
	n := leader(t, 0, 1, s)
	n.Records()
	for range 3 {
		proposes(t, "full", n, "a", most, 5, api.OK)
	}
	is(t, "full", n, api.Leader, 0, most, 10, with(s, 5, 0))
	records(t, "full", n)
}

func TestCompactAtEachBound(t *testing.T) {
	own := entries(8, 2, 3, 3, 4) // base 7, commit 9
	for _, c := range []struct {
		index int
		data  string
		e     api.Errno
	}{
		{math.MinInt, "x", api.ErrGone}, {-1, "x", api.ErrGone}, {0, "x", api.ErrGone}, {6, "x", api.ErrGone}, {7, "x", api.ErrGone},
		{8, "x", api.OK}, {9, "x", api.OK}, {10, "x", api.ErrNone}, {11, "x", api.ErrNone}, {12, "x", api.ErrNone}, {math.MaxInt, "x", api.ErrNone},
		{8, long, api.ErrArg}, {7, long, api.ErrArg}, {10, long, api.ErrArg}, {8, long[1:], api.OK}, {9, "", api.OK},
	} {
		n := appendNode(t, 6)
		need(t, "Compact", n.Compact(c.index, c.data), c.e)
		s := api.Saved{Term: 6, Vote: -1, Base: 7, BaseTerm: 2, Data: "up to 7", Entries: own}
		if c.e != api.OK {
			is(t, "refused", n, api.Follower, 2, 9, 9, s)
			records(t, "refused", n)
			continue
		}
		term := own[c.index-8].Term
		s.Base, s.BaseTerm, s.Data, s.Entries = c.index, term, c.data, own[c.index-7:]
		is(t, "compacted", n, api.Follower, 2, 9, 9, s)
		records(t, "compacted", n, baseRecord(c.index, term, c.data))
		need(t, "Compact again", n.Compact(c.index, "again"), api.ErrGone)
	}
}

func TestCompactByEachRole(t *testing.T) {
	for role, make := range map[int]func(*testing.T, int, int, api.Saved) *raft.Node{
		api.Follower: begun, api.Candidate: candidate, api.Leader: leader,
	} {
		n := make(t, 0, 3, saved(4, 7, 2, 2, 3))
		need(t, "nothing is committed behind the base", n.Compact(8, "x"), api.ErrNone)
		need(t, "at the base", n.Compact(7, "x"), api.ErrGone)
		if role == api.Leader {
			n.Receive(appended(1, 0, 5, true, 10))
			n.Records()
			need(t, "leader", n.Compact(10, "x"), api.OK)
			records(t, "leader", n, baseRecord(10, 5, "x"))
			is(t, "leader", n, api.Leader, 0, 10, 10, api.Saved{Term: 5, Vote: 0, Base: 10, BaseTerm: 5, Data: "x"})
		}
	}
	// A candidate that has committed something as a follower.
	n := appendNode(t, 6)
	for n.Role() != api.Candidate {
		n.Tick(0)
	}
	n.Records()
	need(t, "candidate", n.Compact(9, "x"), api.OK)
	records(t, "candidate", n, baseRecord(9, 3, "x"))
	is(t, "candidate", n, api.Candidate, -1, 9, 10, api.Saved{Term: 7, Vote: 1, Base: 9, BaseTerm: 3, Data: "x", Entries: entries(10, 3, 4)})
}
