package raft_test

import (
	"rookery/api"
	"testing"
)

func TestVoteHangsOnHowNewTheLogIs(t *testing.T) {
	s := saved(4, 7, 2, 2, 3) // its last one is 9, of term 3
	for _, c := range []struct {
		index, at int
		ok        bool
	}{
		{9, 3, true}, {10, 3, true}, {8, 3, false}, {0, 3, false}, {0, 4, true}, {8, 4, true}, {9, 4, true},
		{9, 2, false}, {10, 2, false}, {1 << 40, 2, false}, {0, 0, false}, {0, 1 << 40, true},
	} {
		for _, term := range []int{4, 6} {
			n := begun(t, 1, 3, s)
			n.Tick(0)
			sends(t, "Receive", n.Receive(vote(2, 1, term, c.index, c.at)), voted(1, 2, term, c.ok))
			if c.ok {
				is(t, "voted", n, api.Follower, -1, 7, 10, with(s, term, 2))
				records(t, "voted", n, hardRecord(term, 2))
				continue
			}
			is(t, "not voted", n, api.Follower, -1, 7, 9, with(s, term, -1))
			if term == 4 {
				records(t, "not voted", n)
			} else {
				records(t, "not voted", n, hardRecord(term, -1))
			}
		}
	}
}

func TestVoteOfALogWithoutEntries(t *testing.T) {
	s := saved(4, 7, 3) // its base is the last one
	for _, c := range []struct {
		index, at int
		ok        bool
	}{{7, 3, true}, {6, 3, false}, {8, 3, true}, {7, 2, false}, {1, 4, true}} {
		n := begun(t, 1, 3, s)
		sends(t, "Receive", n.Receive(vote(2, 1, 5, c.index, c.at)), voted(1, 2, 5, c.ok))
	}
}

func TestVoteIsGivenOnceInATerm(t *testing.T) {
	s := saved(4, 0, 0, 2)
	n := begun(t, 1, 4, s)
	sends(t, "first", n.Receive(vote(2, 1, 5, 1, 2)), voted(1, 2, 5, true))
	records(t, "first", n, hardRecord(5, 2))
	n.Tick(0)
	sends(t, "another one", n.Receive(vote(3, 1, 5, 9, 4)), voted(1, 3, 5, false))
	is(t, "another one", n, api.Follower, -1, 0, 9, with(s, 5, 2))
	records(t, "another one", n)
	sends(t, "the same again", n.Receive(vote(2, 1, 5, 1, 2)), voted(1, 2, 5, true))
	is(t, "the same again", n, api.Follower, -1, 0, 10, with(s, 5, 2))
	records(t, "the same again", n)
	sends(t, "the same, by another log", n.Receive(vote(2, 1, 5, 0, 0)), voted(1, 2, 5, false))
	sends(t, "a later term", n.Receive(vote(3, 1, 6, 1, 2)), voted(1, 3, 6, true))
	records(t, "a later term", n, hardRecord(6, 3))
	sends(t, "an earlier term", n.Receive(vote(2, 1, 5, 1, 2)), voted(1, 2, 6, false))
	is(t, "an earlier term", n, api.Follower, -1, 0, 10, with(s, 6, 3))
	records(t, "an earlier term", n)
}

func TestVoteIsKeptBehindBeginningAnew(t *testing.T) {
	n := begun(t, 1, 4, with(saved(4, 0, 0, 2), 4, 2))
	sends(t, "another one", n.Receive(vote(3, 1, 4, 1, 2)), voted(1, 3, 4, false))
	sends(t, "the same", n.Receive(vote(2, 1, 4, 1, 2)), voted(1, 2, 4, true))
	records(t, "the same", n)
}

func TestVoteOfAnEarlierTermIsNotGiven(t *testing.T) {
	s := saved(4, 0, 0, 2)
	n := begun(t, 1, 4, s)
	n.Tick(0)
	sends(t, "Receive", n.Receive(vote(2, 1, 3, 9, 3)), voted(1, 2, 4, false))
	is(t, "Receive", n, api.Follower, -1, 0, 9, s)
	records(t, "Receive", n)
}

func TestVoteAskedOfACandidateAndOfALeader(t *testing.T) {
	s := saved(4, 0, 0, 2)
	n := candidate(t, 1, 4, s)
	n.Tick(0)
	n.Records()
	for _, term := range []int{4, 5} {
		sends(t, "candidate", n.Receive(vote(2, 1, term, 9, 4)), voted(1, 2, 5, false))
		is(t, "candidate", n, api.Candidate, -1, 0, 9, with(s, 5, 1))
		records(t, "candidate", n)
	}
	sends(t, "candidate", n.Receive(vote(2, 1, 6, 1, 2)), voted(1, 2, 6, true))
	is(t, "candidate", n, api.Follower, -1, 0, 10, with(s, 6, 2))
	records(t, "candidate", n, hardRecord(6, 2))

	n = leader(t, 1, 4, s)
	n.Records()
	s = more(s, api.Entry{Term: 5})
	for _, term := range []int{4, 5} {
		sends(t, "leader", n.Receive(vote(2, 1, term, 9, 5)), voted(1, 2, 5, false))
		is(t, "leader", n, api.Leader, 1, 0, 10, with(s, 5, 1))
		records(t, "leader", n)
	}
	sends(t, "leader", n.Receive(vote(2, 1, 6, 1, 2)), voted(1, 2, 6, false)) // its own entry is newer
	is(t, "leader", n, api.Follower, -1, 0, 10, with(s, 6, -1))
	records(t, "leader", n, hardRecord(6, -1))
	sends(t, "once a leader", n.Receive(vote(3, 1, 6, 2, 5)), voted(1, 3, 6, true))
	records(t, "once a leader", n, hardRecord(6, 3))
}

func TestAVoteMayBeGivenBehindFollowing(t *testing.T) {
	n := begun(t, 1, 4, saved(4, 0, 0, 2))
	n.Receive(appends(2, 1, 4, 1, 2, 0))
	sends(t, "Receive", n.Receive(vote(3, 1, 4, 1, 2)), voted(1, 3, 4, true))
	is(t, "who leads stays", n, api.Follower, 2, 0, 10, with(saved(4, 0, 0, 2), 4, 3))
}

func TestAMajorityOfVotesLetsLead(t *testing.T) {
	for nodes := 2; nodes <= 7; nodes++ {
		s := saved(4, 7, 2, 2, 3)
		n := candidate(t, 1, nodes, s)
		var others []int
		for k := range nodes {
			if k != 1 {
				others = append(others, k)
			}
		}
		for i, from := range others {
			sends(t, "no vote", n.Receive(voted(from, 1, 5, false)))
			if 2*(i+2) <= nodes { // with its own one
				for range 3 {
					sends(t, "too few", n.Receive(voted(from, 1, 5, true)))
				}
				is(t, "too few", n, api.Candidate, -1, 7, 10, with(s, 5, 1))
				continue
			}
			var want []api.Message
			for _, to := range others {
				want = append(want, appends(1, to, 5, 9, 3, 7, api.Entry{Term: 5}))
			}
			n.Records()
			sends(t, "a majority", n.Receive(voted(from, 1, 5, true)), want...)
			is(t, "a majority", n, api.Leader, 1, 7, 10, more(with(s, 5, 1), api.Entry{Term: 5}))
			records(t, "a majority", n, entryRecord(10, 5, ""))
			for _, late := range others {
				sends(t, "late votes", n.Receive(voted(late, 1, 5, true)))
			}
			is(t, "late votes", n, api.Leader, 1, 7, 10, more(with(s, 5, 1), api.Entry{Term: 5}))
			break
		}
	}
}

func TestVotesOfAnotherTermDoNotCount(t *testing.T) {
	s := saved(4, 0, 0)
	n := candidate(t, 0, 5, s)
	sends(t, "one vote", n.Receive(voted(1, 0, 5, true)))
	sends(t, "of an earlier term", n.Receive(voted(2, 0, 4, true)))
	for range 10 {
		n.Tick(0)
	}
	sends(t, "again, in its next term", n.Receive(voted(2, 0, 6, true)))
	sends(t, "late, of its last term", n.Receive(voted(3, 0, 5, true)))
	is(t, "two votes", n, api.Candidate, -1, 0, 10, with(s, 6, 0))
	sends(t, "of a later term", n.Receive(voted(3, 0, 7, true)))
	is(t, "of a later term", n, api.Follower, -1, 0, 10, with(s, 7, -1))
	sends(t, "to a follower", n.Receive(voted(4, 0, 7, true)))
	is(t, "to a follower", n, api.Follower, -1, 0, 10, with(s, 7, -1))
}

// One that leads again begins with no match: what nodes had in an earlier term of its is not counted.
func TestLeadingAgainForgetsWhatNodesHad(t *testing.T) {
	n := leader(t, 0, 3, saved(4, 0, 0))
	n.Receive(appended(1, 0, 5, true, 1))
	if n.Commit() != 1 {
		t.Fatalf("commit %d", n.Commit())
	}
	n.Receive(voted(1, 0, 6, false))
	for range 10 {
		n.Tick(0)
	}
	x := api.Entry{Term: 7}
	sends(t, "leading again", n.Receive(voted(2, 0, 7, true)), appends(0, 1, 7, 1, 5, 1, x), appends(0, 2, 7, 1, 5, 1, x))
	is(t, "leading again", n, api.Leader, 0, 1, 10, api.Saved{Term: 7, Entries: []api.Entry{{Term: 5}, x}})
	sends(t, "back", n.Receive(appended(1, 0, 7, false, 0)), appends(0, 1, 7, 0, 0, 1, api.Entry{Term: 5}, x))
}
