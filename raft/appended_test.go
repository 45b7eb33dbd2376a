package raft_test

import (
	"rookery/api"
	"rookery/raft"
	"testing"
)

// ahead is a leader of term 5 among five nodes, whose base is 7 of term 2, whose entries are 8 and 9 of the terms 2 and 3, then 10 to 12 of its own.
func ahead(t *testing.T) (*raft.Node, []api.Entry) {
	t.Helper()
	n := leader(t, 0, 5, saved(4, 7, 2, 2, 3))
	n.Propose("11")
	n.Propose("12")
	n.Records()
	return n, append(entries(8, 2, 3), api.Entry{Term: 5}, api.Entry{Term: 5, Data: "11"}, api.Entry{Term: 5, Data: "12"})
}

func TestAppendedOkRaisesMatchAndNext(t *testing.T) {
	n, list := ahead(t)
	before := tell(n)
	// next is 10 and match 0 at first: what is below next is not told again.
	sends(t, "at 0", n.Receive(appended(1, 0, 5, true, 0)), appends(0, 1, 5, 9, 3, 7, list[2:]...))
	sends(t, "below next", n.Receive(appended(1, 0, 5, true, 8)), appends(0, 1, 5, 9, 3, 7, list[2:]...))
	sends(t, "one below next", n.Receive(appended(1, 0, 5, true, 9)), appends(0, 1, 5, 9, 3, 7, list[2:]...))
	sends(t, "at next", n.Receive(appended(1, 0, 5, true, 10)), appends(0, 1, 5, 10, 5, 7, list[3:]...))
	sends(t, "above next", n.Receive(appended(1, 0, 5, true, 11)), appends(0, 1, 5, 11, 5, 7, list[4:]...))
	sends(t, "below match", n.Receive(appended(1, 0, 5, true, 8)), appends(0, 1, 5, 11, 5, 7, list[4:]...))
	sends(t, "at match", n.Receive(appended(1, 0, 5, true, 11)), appends(0, 1, 5, 11, 5, 7, list[4:]...))
	sends(t, "above Last", n.Receive(appended(1, 0, 5, true, 13)))
	sends(t, "far above Last", n.Receive(appended(1, 0, 5, true, 1<<40)))
	sends(t, "still the same", n.Receive(appended(1, 0, 5, true, 11)), appends(0, 1, 5, 11, 5, 7, list[4:]...))
	sends(t, "at Last", n.Receive(appended(1, 0, 5, true, 12)))
	sends(t, "at Last again", n.Receive(appended(1, 0, 5, true, 12)))
	sends(t, "late", n.Receive(appended(1, 0, 5, true, 9)))
	if now := tell(n); now != before {
		t.Errorf("%s, not %s", now, before)
	}
	records(t, "nothing survives of it", n)
	sends(t, "Tick", n.Tick(0), appends(0, 1, 5, 12, 5, 7), appends(0, 2, 5, 9, 3, 7, list[2:]...),
		appends(0, 3, 5, 9, 3, 7, list[2:]...), appends(0, 4, 5, 9, 3, 7, list[2:]...))
}

func TestAppendedNotOkGoesBack(t *testing.T) {
	n, list := ahead(t)
	whole := func(index, at int) api.Message {
		return appends(0, 2, 5, index, at, 7, list[index-7:]...)
	}
	sends(t, "far above next", n.Receive(appended(2, 0, 5, false, 1<<40)), whole(8, 2)) // next was 10, is 9
	sends(t, "at next", n.Receive(appended(2, 0, 5, false, 9)), whole(7, 2))            // next is 8
	base := snap(0, 2, 5, 7, 2, 7, "up to 7")
	sends(t, "behind the base", n.Receive(appended(2, 0, 5, false, 8)), base) // next is 7
	sends(t, "a hint", n.Receive(appended(2, 0, 5, false, 3)), base)          // next is 4
	sends(t, "a hint of 0", n.Receive(appended(2, 0, 5, false, 0)), base)     // next is 1
	sends(t, "at least 1", n.Receive(appended(2, 0, 5, false, 0)), base)
	sends(t, "at least 1", n.Receive(appended(2, 0, 5, false, 9)), base)
	sends(t, "Ok", n.Receive(appended(2, 0, 5, true, 7)), whole(7, 2)) // match is 7, next 8
	sends(t, "not below match", n.Receive(appended(2, 0, 5, false, 0)), whole(7, 2))
	sends(t, "Ok", n.Receive(appended(2, 0, 5, true, 11)), whole(11, 5)) // match is 11, next 12
	sends(t, "not below match", n.Receive(appended(2, 0, 5, false, 0)), whole(11, 5))
	sends(t, "Ok", n.Receive(appended(2, 0, 5, true, 12))) // match is 12, next 13
	sends(t, "not below Last", n.Receive(appended(2, 0, 5, false, 12)), appends(0, 2, 5, 12, 5, 7))
	sends(t, "a hint ahead of another node", n.Receive(appended(3, 0, 5, false, 8)), appends(0, 3, 5, 8, 2, 7, list[1:]...)) // its next was 10, is 9
	sends(t, "by one, whatever the hint", n.Receive(appended(3, 0, 5, false, 8)), appends(0, 3, 5, 7, 2, 7, list...))
	sends(t, "by the hint", n.Receive(appended(4, 0, 5, false, 7)), appends(0, 4, 5, 7, 2, 7, list...)) // its next was 10, is 8
	records(t, "nothing survives of it", n)
}

func TestAppendedToALeaderAlone(t *testing.T) {
	s := saved(5, 7, 2, 2, 3)
	for _, ok := range []bool{true, false} {
		n := begun(t, 0, 5, s)
		n.Tick(0)
		sends(t, "follower", n.Receive(appended(1, 0, 5, ok, 9)))
		is(t, "follower", n, api.Follower, -1, 7, 9, s)
		n = candidate(t, 0, 5, s)
		n.Tick(0)
		sends(t, "candidate", n.Receive(appended(1, 0, 6, ok, 9)))
		is(t, "candidate", n, api.Candidate, -1, 7, 9, with(s, 6, 0))
	}
}

func TestABatchOfSixteenAtMost(t *testing.T) {
	n := leader(t, 0, 3, saved(4, 0, 0))
	list := []api.Entry{{Term: 5}}
	for _, data := range entries(2, make([]int, 40)...) {
		n.Propose(data.Data)
		list = append(list, api.Entry{Term: 5, Data: data.Data})
	}
	for from := 0; from < len(list); from++ {
		at := 0
		if from > 0 {
			at = 5
		}
		to := min(from+16, len(list))
		sends(t, "Receive", n.Receive(appended(1, 0, 5, true, from)), appends(0, 1, 5, from, at, from, list[from:to]...))
	}
	sends(t, "at Last", n.Receive(appended(1, 0, 5, true, 41)))
}

func TestCommitsWhatAMajorityHas(t *testing.T) {
	for nodes := 2; nodes <= 7; nodes++ {
		n := leader(t, nodes-1, nodes, saved(4, 7, 2, 2, 3))
		n.Propose("11")
		for from := range nodes - 1 {
			n.Receive(appended(from, nodes-1, 5, true, 10))
			want := 7
			if 2*(from+2) > nodes { // with itself
				want = 10
			}
			if n.Commit() != want {
				t.Errorf("%d nodes, %d of them have it: commit %d", nodes, from+2, n.Commit())
			}
		}
		for range 2 {
			n.Receive(appended(0, nodes-1, 5, true, 11))
		}
		if want := map[bool]int{true: 11, false: 10}[nodes < 4]; n.Commit() != want {
			t.Errorf("%d nodes, one has all: commit %d", nodes, n.Commit())
		}
	}
}

func TestCommitsTheHighestThatAMajorityHas(t *testing.T) {
	n, list := ahead(t)
	sends(t, "one", n.Receive(appended(1, 0, 5, true, 12)))
	sends(t, "two", n.Receive(appended(4, 0, 5, true, 11)), appends(0, 4, 5, 11, 5, 11, list[4:]...)) // the commit is told at once
	if n.Commit() != 11 {
		t.Errorf("commit %d", n.Commit())
	}
	n.Receive(appended(2, 0, 5, true, 10))
	n.Receive(appended(3, 0, 5, true, 11))
	if n.Commit() != 11 {
		t.Errorf("commit %d", n.Commit())
	}
	n.Receive(appended(2, 0, 5, true, 12))
	if n.Commit() != 12 {
		t.Errorf("commit %d", n.Commit())
	}
}

// What is of an earlier term is committed with the first one of the leader's own, and not ahead of it.
func TestCommitsNothingOfAnEarlierTerm(t *testing.T) {
	n := leader(t, 0, 3, saved(4, 7, 2, 2, 4))
	for from := 1; from <= 2; from++ {
		for _, index := range []int{8, 9} {
			n.Receive(appended(from, 0, 5, true, index))
			if n.Commit() != 7 {
				t.Errorf("commit %d", n.Commit())
			}
		}
	}
	n.Receive(appended(2, 0, 5, true, 10))
	if n.Commit() != 10 {
		t.Errorf("commit %d", n.Commit())
	}
}

// A commit that a leader had as a follower does not go back.
func TestALeadersCommitDoesNotGoBack(t *testing.T) {
	n := begun(t, 0, 5, saved(4, 0, 0, 1, 1, 1))
	n.Receive(appends(1, 0, 4, 3, 1, 3))
	for range 10 {
		n.Tick(0)
	}
	n.Receive(voted(1, 0, 5, true))
	n.Receive(voted(2, 0, 5, true))
	for from := 1; from <= 4; from++ {
		n.Receive(appended(from, 0, 5, true, 1))
		if n.Role() != api.Leader || n.Commit() != 3 {
			t.Errorf("role %d, commit %d", n.Role(), n.Commit())
		}
	}
}

// A leader that has compacted tells its base to those who lack what is gone.
func TestALeaderTellsItsBase(t *testing.T) {
	n, list := ahead(t)
	n.Receive(appended(1, 0, 5, true, 12))
	n.Receive(appended(2, 0, 5, true, 11))
	need(t, "Compact", n.Compact(11, "all of it"), api.OK)
	base := func(to int) api.Message { return snap(0, to, 5, 11, 5, 11, "all of it") }
	sends(t, "Tick", n.Tick(0), appends(0, 1, 5, 12, 5, 11), appends(0, 2, 5, 11, 5, 11, list[4]), base(3), base(4))
	sends(t, "Ok below the base", n.Receive(appended(3, 0, 5, true, 10)), base(3)) // next is 11: 10 is below the base
	sends(t, "Ok at the base", n.Receive(appended(3, 0, 5, true, 11)), appends(0, 3, 5, 11, 5, 11, list[4]))
	sends(t, "not Ok", n.Receive(appended(4, 0, 5, false, 9)), base(4))
}
