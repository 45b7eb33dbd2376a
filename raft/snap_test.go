package raft_test

import (
	"rookery/api"
	"testing"
)

func TestSnapOfAnEarlierTerm(t *testing.T) {
	s := saved(4, 7, 2, 2, 3)
	m := snap(2, 1, 3, 20, 3, 20, "snap")
	n := begun(t, 1, 3, s)
	n.Tick(0)
	sends(t, "follower", n.Receive(m), appended(1, 2, 4, false, 9))
	is(t, "follower", n, api.Follower, -1, 7, 9, s)
	records(t, "follower", n)
	n = candidate(t, 1, 3, s)
	n.Tick(0)
	sends(t, "candidate", n.Receive(m), appended(1, 2, 5, false, 9))
	is(t, "candidate", n, api.Candidate, -1, 7, 9, with(s, 5, 1))
	n = leader(t, 1, 3, s)
	sends(t, "leader", n.Receive(m), appended(1, 2, 5, false, 10))
	is(t, "leader", n, api.Leader, 1, 7, 10, more(with(s, 5, 1), api.Entry{Term: 5}))
}

func TestSnapIsFollowedByAll(t *testing.T) {
	s := saved(4, 7, 2, 2, 3)
	old := snap(2, 1, 5, 6, 1, 7, "old")
	n := begun(t, 1, 4, with(s, 5, 3))
	n.Tick(0)
	sends(t, "follower", n.Receive(old), appended(1, 2, 5, true, 7))
	is(t, "follower", n, api.Follower, 2, 7, 10, with(s, 5, 3))
	n = candidate(t, 1, 4, s)
	n.Tick(0)
	n.Records()
	sends(t, "candidate", n.Receive(old), appended(1, 2, 5, true, 7))
	is(t, "candidate", n, api.Follower, 2, 7, 10, with(s, 5, 1))
	records(t, "candidate", n)
	n = leader(t, 1, 4, s)
	n.Records()
	sends(t, "leader of the same term", n.Receive(snap(2, 1, 5, 20, 4, 20, "snap")))
	is(t, "leader of the same term", n, api.Leader, 1, 7, 10, more(with(s, 5, 1), api.Entry{Term: 5}))
	records(t, "leader of the same term", n)
	sends(t, "leader, a later term", n.Receive(snap(2, 1, 6, 20, 4, 25, "snap")), appended(1, 2, 6, true, 20))
	is(t, "leader, a later term", n, api.Follower, 2, 20, 10, api.Saved{Term: 6, Vote: -1, Base: 20, BaseTerm: 4, Data: "snap"})
	records(t, "leader, a later term", n, hardRecord(6, -1), baseRecord(20, 4, "snap"))
}

// The node's base is 7 of term 2, its entries are 8 to 11 of the terms 2, 3, 3, 4; all up to 9 is committed.
func TestSnapAroundTheCommit(t *testing.T) {
	own := entries(8, 2, 3, 3, 4)
	for _, c := range []struct {
		what      string
		index, at int
		taken     bool
		behind    []api.Entry
	}{
		{"at 0", 0, 0, false, own}, {"below the base", 6, 2, false, own}, {"at the base", 7, 2, false, own},
		{"at the base, another term", 7, 3, false, own}, {"below the commit", 8, 2, false, own},
		{"at the commit", 9, 3, false, own}, {"at the commit, another term", 9, 4, false, own},
		{"above the commit", 10, 3, true, own[3:]}, {"above the commit, another term", 10, 4, true, nil},
		{"above the commit, an earlier term", 10, 2, true, nil},
		{"at Last", 11, 4, true, nil}, {"at Last, another term", 11, 5, true, nil},
		{"above Last", 12, 4, true, nil}, {"above Last, a later term", 12, 6, true, nil}, {"far above Last", 1 << 40, 6, true, nil},
	} {
		for _, term := range []int{6, 8} {
			n := appendNode(t, 6)
			s := api.Saved{Term: term, Vote: -1, Base: 7, BaseTerm: 2, Data: "up to 7", Entries: c.behind}
			commit := 9
			var want []api.Record
			if term > 6 {
				want = append(want, hardRecord(term, -1))
			}
			if c.taken {
				s.Base, s.BaseTerm, s.Data = c.index, c.at, "snap"
				commit = c.index
				want = append(want, baseRecord(c.index, c.at, "snap"))
			}
			// What it says of a commit, and entries that it has, are nothing.
			m := snap(0, 1, term, c.index, c.at, 1<<40, "snap")
			if c.at <= term {
				m.Entries = entries(c.index+1, c.at)
			}
			sends(t, c.what, n.Receive(m), appended(1, 0, term, true, commit))
			is(t, c.what, n, api.Follower, 0, commit, 10, s)
			records(t, c.what, n, want...)
		}
	}
}

func TestSnapWithoutData(t *testing.T) {
	n := begun(t, 1, 3, saved(4, 7, 2, 2, 3))
	sends(t, "Receive", n.Receive(snap(0, 1, 4, 8, 2, 8, "")), appended(1, 0, 4, true, 8))
	is(t, "Receive", n, api.Follower, 0, 8, 10, api.Saved{Term: 4, Vote: -1, Base: 8, BaseTerm: 2, Entries: entries(9, 3)})
	records(t, "Receive", n, baseRecord(8, 2, ""))
	sends(t, "much", n.Receive(snap(0, 1, 4, 9, 3, 9, long[1:])), appended(1, 0, 4, true, 9))
	if n.Saved().Data != long[1:] {
		t.Error("much data is not kept")
	}
}

// A node that took a base goes on behind it.
func TestGoingOnBehindASnap(t *testing.T) {
	n := begun(t, 1, 3, saved(4, 7, 2, 2, 3))
	n.Receive(snap(0, 1, 4, 20, 4, 20, "snap"))
	sends(t, "ahead of it", n.Receive(appends(0, 1, 4, 9, 3, 20)), appended(1, 0, 4, true, 9))
	sends(t, "at it", n.Receive(appends(0, 1, 4, 20, 4, 21, entries(21, 4)...)), appended(1, 0, 4, true, 21))
	is(t, "at it", n, api.Follower, 0, 21, 10, api.Saved{Term: 4, Vote: -1, Base: 20, BaseTerm: 4, Data: "snap", Entries: entries(21, 4)})
	sends(t, "voting", n.Receive(vote(2, 1, 5, 20, 4)), voted(1, 2, 5, false))
	sends(t, "voting", n.Receive(vote(2, 1, 5, 21, 4)), voted(1, 2, 5, true))
}

// No leader has a base of a later term than its own, but a message that tells of one may be: then the log takes no entry of the node's terms below it, and the node leads and answers as if it had.
func TestABaseOfALaterTerm(t *testing.T) {
	n := begun(t, 0, 3, api.Saved{Vote: -1})
	sends(t, "Receive", n.Receive(snap(1, 0, 3, 5, 9, 5, "later")), appended(0, 1, 3, true, 5))
	for range 10 {
		n.Tick(0)
	}
	n.Records()
	s := api.Saved{Term: 4, Vote: 0, Base: 5, BaseTerm: 9, Data: "later"}
	sends(t, "leading", n.Receive(voted(1, 0, 4, true)), appends(0, 1, 4, 5, 9, 5), appends(0, 2, 4, 5, 9, 5))
	proposes(t, "leading", n, "x", 5, 4, api.OK, appends(0, 1, 4, 5, 9, 5), appends(0, 2, 4, 5, 9, 5))
	proposes(t, "leading, too much data", n, long, 0, 0, api.ErrArg)
	n.Receive(appended(1, 0, 4, true, 5))
	is(t, "leading", n, api.Leader, 0, 5, 10, s)
	records(t, "leading", n)
}
