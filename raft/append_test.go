package raft_test

import (
	"fmt"
	"rookery/api"
	"rookery/raft"
	"slices"
	"strconv"
	"testing"
)

func TestAppendOfAnEarlierTerm(t *testing.T) {
	s := saved(4, 7, 2, 2, 3)
	for _, m := range []api.Message{appends(2, 1, 3, 9, 3, 9, entries(10, 3)...), appends(2, 1, 1, 0, 0, 0), appends(2, 1, 3, 1<<40, 3, 9)} {
		n := begun(t, 1, 3, s)
		n.Tick(0)
		sends(t, "follower", n.Receive(m), appended(1, 2, 4, false, 9))
		is(t, "follower", n, api.Follower, -1, 7, 9, s)
		records(t, "follower", n)
		n = candidate(t, 1, 3, s)
		n.Tick(0)
		sends(t, "candidate", n.Receive(m), appended(1, 2, 5, false, 9))
		is(t, "candidate", n, api.Candidate, -1, 7, 9, with(s, 5, 1))
		n = leader(t, 1, 3, s)
		sends(t, "leader", n.Receive(m), appended(1, 2, 5, false, 10))
		is(t, "leader", n, api.Leader, 1, 7, 10, more(with(s, 5, 1), api.Entry{Term: 5}))
	}
}

func TestAppendIsFollowedByAll(t *testing.T) {
	s := saved(4, 7, 2, 2, 3)
	n := begun(t, 1, 4, with(s, 5, 3))
	n.Tick(0)
	sends(t, "follower", n.Receive(appends(2, 1, 5, 9, 3, 0)), appended(1, 2, 5, true, 9))
	is(t, "follower", n, api.Follower, 2, 7, 10, with(s, 5, 3))
	records(t, "follower", n)
	n = candidate(t, 1, 4, s)
	n.Tick(0)
	n.Records()
	sends(t, "candidate", n.Receive(appends(2, 1, 5, 9, 3, 0)), appended(1, 2, 5, true, 9))
	is(t, "candidate", n, api.Follower, 2, 7, 10, with(s, 5, 1))
	records(t, "candidate", n)
	n = candidate(t, 1, 4, s)
	n.Records()
	sends(t, "candidate, a later term", n.Receive(appends(2, 1, 6, 9, 3, 0)), appended(1, 2, 6, true, 9))
	is(t, "candidate, a later term", n, api.Follower, 2, 7, 10, with(s, 6, -1))
	records(t, "candidate, a later term", n, hardRecord(6, -1))
	n = leader(t, 1, 4, s)
	n.Tick(0)
	n.Records()
	sends(t, "leader of the same term", n.Receive(appends(2, 1, 5, 9, 3, 9, entries(10, 4)...)))
	is(t, "leader of the same term", n, api.Leader, 1, 7, 10, more(with(s, 5, 1), api.Entry{Term: 5}))
	records(t, "leader of the same term", n)
	sends(t, "leader, a later term", n.Receive(appends(2, 1, 6, 9, 3, 0)), appended(1, 2, 6, true, 9))
	is(t, "leader, a later term", n, api.Follower, 2, 7, 10, more(with(s, 6, -1), api.Entry{Term: 5}))
	records(t, "leader, a later term", n, hardRecord(6, -1))
}

// A message that is refused, or that stops at what is committed, is a leader's nevertheless.
func TestAppendThatIsRefusedIsFollowed(t *testing.T) {
	s := saved(4, 7, 2, 2, 3)
	n := candidate(t, 1, 3, s)
	n.Tick(0)
	sends(t, "refused", n.Receive(appends(2, 1, 5, 10, 3, 0)), appended(1, 2, 5, false, 9))
	is(t, "refused", n, api.Follower, 2, 7, 10, with(s, 5, 1))
	n = begun(t, 1, 3, s)
	n.Receive(appends(2, 1, 4, 9, 3, 8))
	n.Tick(0)
	n.Records()
	sends(t, "stopped", n.Receive(appends(0, 1, 6, 7, 2, 9, entries(8, 3)...)))
	is(t, "stopped", n, api.Follower, 0, 8, 10, with(s, 6, -1))
	records(t, "stopped", n, hardRecord(6, -1))
}

// appendCase is a MsgAppend to a node whose base is 7 of term 2, whose entries are 8 to 11 of the terms 2, 3, 3, 4, and of which all up to 9 is committed.
type appendCase struct {
	what              string
	index, at, commit int
	list              []api.Entry
	ok                bool // it is answered so
	answer            int  // with that index; -1: nothing is answered
	behind            []api.Entry
	committed         int
	records           []api.Record
}

func appendCases() []appendCase {
	own := entries(8, 2, 3, 3, 4)
	x := api.Entry{Term: 5, Data: "x"}
	y := api.Entry{Term: 6, Data: "y"}
	z := api.Entry{Term: 4, Data: "z"}
	join := func(lists ...[]api.Entry) []api.Entry { return slices.Concat(lists...) }
	none := []api.Record(nil)
	return []appendCase{
		// Where nothing, or another term, stands at Index.
		{"above Last", 12, 4, 9, nil, false, 11, own, 9, none},
		{"far above Last", 1 << 40, 4, 9, []api.Entry{x}, false, 11, own, 9, none},
		{"above Last with entries", 12, 4, 20, []api.Entry{x, y}, false, 11, own, 9, none},
		{"another term at Last", 11, 3, 20, []api.Entry{x}, false, 10, own, 9, none},
		{"a later term at Last", 11, 5, 20, []api.Entry{x}, false, 10, own, 9, none},
		{"another term amid", 10, 4, 20, nil, false, 9, own, 9, none},
		{"another term at the commit", 9, 2, 20, nil, false, 8, own, 9, none},
		{"another term behind the base", 8, 1, 20, nil, false, 7, own, 9, none},
		{"another term at the base", 7, 1, 20, nil, false, 6, own, 9, none},
		// Below the base no term is looked at.
		{"one below the base", 6, 1, 0, nil, true, 6, own, 9, none},
		{"one below the base, an earlier term", 6, 6, 20, nil, true, 6, own, 9, none},
		{"at 0", 0, 0, 20, nil, true, 0, own, 9, none},
		{"below the base, up to it", 5, 1, 20, entries(6, 1, 2), true, 7, own, 9, none},
		{"below the base, others up to it", 5, 0, 20, entries(6, 0, 1), true, 7, own, 9, none},
		{"below the base, beyond it", 5, 1, 20, entries(6, 1, 2, 2, 3, 3), true, 10, own, 10, none},
		{"below the base, all there is and more", 5, 1, 12, join(entries(6, 1, 2), own, []api.Entry{x}), true, 12, join(own, []api.Entry{x}), 12,
			[]api.Record{entryRecord(12, 5, "x")}},
		{"below the base, other entries at it", 6, 1, 11, join(entries(7, 1), own), true, 11, own, 11, none},
		// What is there is passed over.
		{"at the base, none", 7, 2, 20, nil, true, 7, own, 9, none},
		{"at the base, some that are there", 7, 2, 20, own[:3], true, 10, own, 10, none},
		{"at the base, all that are there", 7, 2, 20, own, true, 11, own, 11, none},
		{"the same terms with other data", 7, 2, 9, entries(80, 2, 3, 3, 4), true, 11, own, 9, none},
		{"at Last, none", 11, 4, 20, nil, true, 11, own, 11, none},
		{"at Last, one", 11, 4, 11, []api.Entry{x}, true, 12, join(own, []api.Entry{x}), 11, []api.Record{entryRecord(12, 5, "x")}},
		{"at Last, two", 11, 4, 20, []api.Entry{x, y}, true, 13, join(own, []api.Entry{x, y}), 13,
			[]api.Record{entryRecord(12, 5, "x"), entryRecord(13, 6, "y")}},
		{"some that are there and one more", 9, 3, 10, join(own[2:], []api.Entry{x}), true, 12, join(own, []api.Entry{x}), 10,
			[]api.Record{entryRecord(12, 5, "x")}},
		// Where terms part.
		{"the last one is another one", 10, 3, 10, []api.Entry{x}, true, 11, join(own[:3], []api.Entry{x}), 10,
			[]api.Record{cutRecord(11), entryRecord(11, 5, "x")}},
		{"the last one is another one, behind one that is there", 9, 3, 11, []api.Entry{own[2], x, y}, true, 12, join(own[:3], []api.Entry{x, y}), 11,
			[]api.Record{cutRecord(11), entryRecord(11, 5, "x"), entryRecord(12, 6, "y")}},
		{"the first one that is not committed is another one", 9, 3, 9, []api.Entry{z}, true, 10, join(own[:2], []api.Entry{z}), 9,
			[]api.Record{cutRecord(10), entryRecord(10, 4, "z")}},
		{"and what is behind it stands there again", 9, 3, 9, []api.Entry{z, {Term: 4, Data: "11"}}, true, 11, join(own[:2], []api.Entry{z, {Term: 4, Data: "11"}}), 9,
			[]api.Record{cutRecord(10), entryRecord(10, 4, "z"), entryRecord(11, 4, "11")}},
		// What is committed stays.
		{"another one at the commit", 8, 2, 20, []api.Entry{x}, false, -1, own, 9, none},
		{"an earlier one at the commit", 8, 2, 20, entries(9, 2), false, -1, own, 9, none},
		{"another one below the commit", 7, 2, 20, []api.Entry{x, y}, false, -1, own, 9, none},
		{"another one below the commit, from below the base", 6, 1, 20, join(entries(7, 2), []api.Entry{x, y}), false, -1, own, 9, none},
		{"another one at the commit, the first one there", 7, 2, 20, []api.Entry{own[0], x}, false, -1, own, 9, none},
		// The commit: no more than the leader's, no more than what is sure to be the same.
		{"a commit below its own", 11, 4, 8, nil, true, 11, own, 9, none},
		{"a commit of 0", 11, 4, 0, nil, true, 11, own, 9, none},
		{"a commit one above its own", 11, 4, 10, nil, true, 11, own, 10, none},
		{"a commit above what was told", 10, 3, 1 << 40, nil, true, 10, own, 10, none},
		{"a commit above what was told, with entries", 9, 3, 12, own[2:3], true, 10, own, 10, none},
	}
}

// appendNode is the node of appendCases.
func appendNode(t *testing.T, term int) *raft.Node {
	t.Helper()
	n := begun(t, 1, 3, with(saved(4, 7, 2, 2, 3, 3, 4), term, -1))
	n.Receive(appends(2, 1, term, 9, 3, 9))
	n.Tick(0)
	n.Records()
	if n.Commit() != 9 {
		t.Fatalf("commit %d", n.Commit())
	}
	return n
}

func TestAppend(t *testing.T) {
	for _, c := range appendCases() {
		for _, term := range []int{6, 8} { // its own, and a later one
			n := appendNode(t, 6)
			out := n.Receive(appends(0, 1, term, c.index, c.at, c.commit, c.list...))
			if c.answer < 0 {
				sends(t, c.what, out)
			} else {
				sends(t, c.what, out, appended(1, 0, term, c.ok, c.answer))
			}
			s := with(saved(term, 7, 2), term, -1)
			is(t, c.what, n, api.Follower, 0, c.committed, 10, more(s, c.behind...))
			want := c.records
			if term > 6 {
				want = append([]api.Record{hardRecord(term, -1)}, want...)
			}
			records(t, c.what, n, want...)
		}
	}
}

func TestAppendRefusedAtTheBeginning(t *testing.T) {
	n := begun(t, 1, 3, api.Saved{Vote: -1})
	sends(t, "another term at 0", n.Receive(appends(2, 1, 3, 0, 1, 0)), appended(1, 2, 3, false, 0))
	sends(t, "above Last", n.Receive(appends(2, 1, 3, 1, 1, 0)), appended(1, 2, 3, false, 0))
	sends(t, "at 0", n.Receive(appends(2, 1, 3, 0, 0, 5, entries(1, 1, 3)...)), appended(1, 2, 3, true, 2))
	is(t, "at 0", n, api.Follower, 2, 2, 10, saved(3, 0, 0, 1, 3))
}

func TestAppendOfAWholeBatch(t *testing.T) {
	terms := make([]int, 16)
	list := entries(1, terms...)
	n := begun(t, 1, 3, api.Saved{Vote: -1})
	sends(t, "16", n.Receive(appends(2, 1, 1, 0, 0, 1<<40, list...)), appended(1, 2, 1, true, 16))
	is(t, "16", n, api.Follower, 2, 16, 10, saved(1, 0, 0, terms...))
	if got := n.Records(); len(got) != 17 || got[16] != entryRecord(16, 0, "16") {
		t.Errorf("records: %+v", got)
	}
}

// A full log refuses what comes behind MaxIndex: it is answered as what was appended.
func TestAppendBeyondTheHighestIndex(t *testing.T) {
	const most = 1 << 40
	full := saved(4, most-2, 2, 3, 3)
	n := begun(t, 1, 3, saved(4, most-2, 2, 3))
	sends(t, "beyond it", n.Receive(appends(2, 1, 4, most-1, 3, 0, entries(most, 3, 3)...)), appended(1, 2, 4, true, most+1))
	is(t, "beyond it", n, api.Follower, 2, most-2, 10, full)
	records(t, "beyond it", n, entryRecord(most, 3, strconv.Itoa(most)))
	n.Tick(0)
	sends(t, "behind it", n.Receive(appends(2, 1, 4, most, 3, 0, entries(most+1, 3, 4)...)), appended(1, 2, 4, true, most+2))
	is(t, "behind it", n, api.Follower, 2, most-2, 10, full)
	sends(t, "at it", n.Receive(appends(2, 1, 4, most, 3, most-1)), appended(1, 2, 4, true, most))
	is(t, "at it", n, api.Follower, 2, most-1, 10, full)
	sends(t, "all of it", n.Receive(appends(2, 1, 4, most-2, 2, most, entries(most-1, 3, 3)...)), appended(1, 2, 4, true, most))
	sends(t, "all of it and more", n.Receive(appends(2, 1, 4, most-2, 2, most, entries(most-1, 3, 3, 3)...)), appended(1, 2, 4, true, most+1))
	is(t, "all of it and more", n, api.Follower, 2, most, 10, full)
	records(t, "all of it and more", n)
	sends(t, "another one below it", n.Receive(appends(2, 1, 4, most-1, 3, most, entries(most, 4, 4)...)))
	list := entries(most+1, make([]int, 16)...)
	for i := range list {
		list[i].Term = 4
	}
	sends(t, "a whole batch", n.Receive(appends(2, 1, 4, most, 3, most, list...)), appended(1, 2, 4, true, most+16))
	is(t, "a whole batch", n, api.Follower, 2, most, 10, full)
	records(t, "a whole batch", n)
}

// Where a full log's last entry gives way to another one, only those behind that are refused.
func TestAppendCutsAFullLog(t *testing.T) {
	const most = 1 << 40
	n := begun(t, 1, 3, saved(4, most-2, 2, 3, 3))
	sends(t, "cut", n.Receive(appends(2, 1, 4, most-1, 3, 0, entries(most, 4, 4)...)), appended(1, 2, 4, true, most+1))
	is(t, "cut", n, api.Follower, 2, most-2, 10, saved(4, most-2, 2, 3, 4))
	records(t, "cut", n, cutRecord(most), entryRecord(most, 4, strconv.Itoa(most)))
}

// refusedCase is a MsgAppend with Index 5 to a node whose base is 7 of term 2: entries from 8 on whose terms are below the base's are refused by the log. Each of the others is appended, behind whatever is last then.
type refusedCase struct {
	terms   []int // of the entries from 6 on
	commit  int
	behind  []api.Entry
	reached int // the commit
	records []api.Record
}

func refusedCases() []refusedCase {
	two := []api.Entry{{Term: 3, Data: "9"}, {Term: 4, Data: "10"}}
	return []refusedCase{
		{[]int{0, 1, 1}, 0, nil, 7, nil},
		{[]int{0, 0, 0}, 7, nil, 7, nil},
		{[]int{0, 1, 1}, 20, nil, 8, nil},
		{[]int{1, 1, 1, 1}, 8, nil, 8, nil},
		{[]int{1, 1, 1, 1}, 20, nil, 9, nil},
		{[]int{0, 1, 1, 2}, 7, []api.Entry{{Term: 2, Data: "9"}}, 7, []api.Record{entryRecord(8, 2, "9")}},
		{[]int{0, 0, 0, 3, 4}, 20, two, 10, []api.Record{entryRecord(8, 3, "9"), entryRecord(9, 4, "10")}},
		{[]int{2, 2, 2, 2}, 20, entries(8, 2, 2), 9, []api.Record{entryRecord(8, 2, "8"), entryRecord(9, 2, "9")}},
	}
}

func TestAppendOfEntriesBelowTheBasesTerm(t *testing.T) {
	for _, c := range refusedCases() {
		what := fmt.Sprintf("terms %v, commit %d", c.terms, c.commit)
		for _, term := range []int{4, 6} { // its own, and a later one
			n := begun(t, 1, 3, saved(4, 7, 2))
			n.Tick(0)
			out := n.Receive(appends(2, 1, term, 5, 0, c.commit, entries(6, c.terms...)...))
			sends(t, what, out, appended(1, 2, term, true, 5+len(c.terms)))
			is(t, what, n, api.Follower, 2, c.reached, 10, more(with(saved(4, 7, 2), term, -1), c.behind...))
			want := c.records
			if term > 4 {
				want = append([]api.Record{hardRecord(term, -1)}, want...)
			}
			records(t, what, n, want...)
		}
	}
}

// What stands where a refused entry should is cut nevertheless, unless it is committed.
func TestAppendOfARefusedEntryCuts(t *testing.T) {
	s := saved(4, 7, 2, 2, 3)
	n := begun(t, 1, 3, s)
	sends(t, "cut", n.Receive(appends(2, 1, 4, 5, 0, 0, entries(6, 1, 1, 1, 1)...)), appended(1, 2, 4, true, 9))
	is(t, "cut", n, api.Follower, 2, 7, 10, saved(4, 7, 2))
	records(t, "cut", n, cutRecord(8))
	n = begun(t, 1, 3, s)
	n.Receive(appends(2, 1, 4, 8, 2, 8))
	sends(t, "committed", n.Receive(appends(2, 1, 4, 5, 0, 0, entries(6, 1, 1, 1, 1)...)))
	is(t, "committed", n, api.Follower, 2, 8, 10, s)
	records(t, "committed", n)
}

// Refused entries may leave the commit above the log's end: nothing stands there that could be of another term, so the node goes on, whatever comes.
func TestACommitAboveTheLogsEnd(t *testing.T) {
	begin := func() *raft.Node {
		n := begun(t, 1, 3, saved(4, 7, 2))
		n.Receive(appends(2, 1, 4, 5, 0, 20, entries(6, 1, 1, 1, 1)...))
		is(t, "above it", n, api.Follower, 2, 9, 10, saved(4, 7, 2))
		return n
	}
	n := begin()
	sends(t, "entries there", n.Receive(appends(2, 1, 4, 7, 2, 20, entries(8, 2, 3, 4)...)), appended(1, 2, 4, true, 10))
	is(t, "entries there", n, api.Follower, 2, 10, 10, saved(4, 7, 2, 2, 3, 4))
	n = begin()
	sends(t, "a base at it", n.Receive(snap(2, 1, 4, 9, 3, 9, "snap")), appended(1, 2, 4, true, 9))
	is(t, "a base at it", n, api.Follower, 2, 9, 10, saved(4, 7, 2))
	sends(t, "a base behind it", n.Receive(snap(2, 1, 4, 10, 3, 9, "snap")), appended(1, 2, 4, true, 10))
	is(t, "a base behind it", n, api.Follower, 2, 10, 10, api.Saved{Term: 4, Vote: -1, Base: 10, BaseTerm: 3, Data: "snap"})
	n = begin()
	need(t, "Compact above it", n.Compact(10, "x"), api.ErrNone)
	need(t, "Compact", n.Compact(9, "x"), api.OK)
	is(t, "Compact", n, api.Follower, 2, 9, 10, api.Saved{Term: 4, Vote: -1, Base: 9, Data: "x"})
	records(t, "Compact", n, baseRecord(9, 0, "x"))
	n = begin()
	for range 10 {
		n.Tick(0)
	}
	n.Receive(voted(0, 1, 5, true))
	is(t, "leading", n, api.Leader, 1, 9, 10, more(with(saved(4, 7, 2), 5, 1), api.Entry{Term: 5}))
	sends(t, "leading", n.Receive(appended(0, 1, 5, true, 8)))
	is(t, "leading", n, api.Leader, 1, 9, 10, more(with(saved(4, 7, 2), 5, 1), api.Entry{Term: 5}))
}

// What is handed in is neither changed nor kept.
func TestWhatIsHandedInIsNotKept(t *testing.T) {
	list := entries(1, 1, 1, 2)
	keep := slices.Clone(list)
	s := saved(2, 0, 0, 1, 1, 2)
	n := begun(t, 1, 3, api.Saved{Vote: -1, Term: 2, Entries: list})
	list[1], list[2] = api.Entry{Term: 2, Data: "turned"}, api.Entry{}
	is(t, "New", n, api.Follower, -1, 0, 10, s)
	other := begun(t, 0, 3, api.Saved{Vote: -1, Term: 2})
	copy(list, keep)
	other.Receive(appends(2, 0, 2, 0, 0, 0, list...))
	if !slices.Equal(list, keep) {
		t.Errorf("changed: %v", list)
	}
	list[0], list[2] = api.Entry{Term: 2, Data: "turned"}, api.Entry{}
	is(t, "Receive", other, api.Follower, 2, 0, 10, s)
	records(t, "Receive", other, entryRecord(1, 1, "1"), entryRecord(2, 1, "2"), entryRecord(3, 2, "3"))
}
