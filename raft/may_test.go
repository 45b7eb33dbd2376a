package raft_test

import (
	"math"
	"rookery/api"
	"rookery/raft"
	"testing"
)

// heard is whether a node took a message: each of these asks for an answer, or is of a term that the node had not got to.
func heard(n *raft.Node, m api.Message) bool {
	before := tell(n)
	return len(n.Receive(m)) > 0 || tell(n) != before
}

// anyKind are messages of each kind to the node 1, all of a later term, so that it hears each of them that may be.
func anyKind() []api.Message {
	return []api.Message{
		vote(2, 1, 7, 9, 3), voted(2, 1, 7, true), appends(2, 1, 7, 9, 3, 7, entries(10, 3, 6)...),
		appended(2, 1, 7, false, 9), snap(2, 1, 7, 12, 6, 12, "snap"),
	}
}

func TestEachMessageThatMayBe(t *testing.T) {
	const most = 1 << 40
	for what, turn := range map[string]func(m *api.Message){
		"as it is":             func(m *api.Message) {},
		"from the first one":   func(m *api.Message) { m.From = 0 },
		"from the last one":    func(m *api.Message) { m.From = 3 },
		"of the highest term":  func(m *api.Message) { m.Term = most },
		"at no index":          func(m *api.Message) { m.Index = 0 },
		"at the highest index": func(m *api.Message) { m.Index = most },
		"at no term":           func(m *api.Message) { m.At = 0 },
		"at the highest term":  func(m *api.Message) { m.At, m.Entries = most, nil },
		"nothing committed":    func(m *api.Message) { m.Commit = 0 },
		"all committed":        func(m *api.Message) { m.Commit = most },
		"Ok":                   func(m *api.Message) { m.Ok = true },
		"much data":            func(m *api.Message) { m.Data = long[1:] },
		"no entries":           func(m *api.Message) { m.Entries = []api.Entry{} },
		"16 entries":           func(m *api.Message) { m.Entries = make([]api.Entry, 16); m.At = 0 },
		"entries of its term":  func(m *api.Message) { m.Entries = entries(m.Index+1, m.At, 7, 7) },
		"an entry at At":       func(m *api.Message) { m.Entries = entries(m.Index+1, m.At) },
		"an entry of much":     func(m *api.Message) { m.Entries = []api.Entry{{Term: m.At, Data: long[1:]}} },
		"rising entries":       func(m *api.Message) { m.At = 0; m.Entries = entries(m.Index+1, 0, 0, 1, 1, 5, 7) },
	} {
		for _, m := range anyKind() {
			turn(&m)
			if !heard(begun(t, 1, 4, saved(5, 7, 2, 2, 3)), m) {
				t.Errorf("%s, kind %d: not heard", what, m.Kind)
			}
		}
	}
}

func TestNoMessageThatMayNotBe(t *testing.T) {
	const most = 1 << 40
	for what, turn := range map[string]func(m *api.Message){
		"of another group":          func(m *api.Message) { m.Group = group - 1 },
		"of a next group":           func(m *api.Message) { m.Group = group + 1 },
		"of no group":               func(m *api.Message) { m.Group = -1 },
		"to one ahead":              func(m *api.Message) { m.To = 0 },
		"to another one":            func(m *api.Message) { m.To = 3 },
		"to nobody":                 func(m *api.Message) { m.To = -1 },
		"from itself":               func(m *api.Message) { m.From = 1 },
		"from nobody":               func(m *api.Message) { m.From = -1 },
		"from the least number":     func(m *api.Message) { m.From = math.MinInt },
		"from one too many":         func(m *api.Message) { m.From = 4 },
		"from the seventh one":      func(m *api.Message) { m.From = 6 },
		"from the greatest number":  func(m *api.Message) { m.From = math.MaxInt },
		"of the kind 0":             func(m *api.Message) { m.Kind = 0 },
		"of the kind 6":             func(m *api.Message) { m.Kind = 6 },
		"of the kind -1":            func(m *api.Message) { m.Kind = -1 },
		"of the greatest kind":      func(m *api.Message) { m.Kind = math.MaxInt },
		"of a term too high":        func(m *api.Message) { m.Term = most + 1 },
		"of the greatest term":      func(m *api.Message) { m.Term = math.MaxInt },
		"at an index below 0":       func(m *api.Message) { m.Index = -1 },
		"at the least index":        func(m *api.Message) { m.Index = math.MinInt },
		"at an index too high":      func(m *api.Message) { m.Index = most + 1 },
		"at the greatest index":     func(m *api.Message) { m.Index = math.MaxInt },
		"at a term below 0":         func(m *api.Message) { m.At = -1 },
		"at a term too high":        func(m *api.Message) { m.At, m.Entries = most+1, nil },
		"less than none committed":  func(m *api.Message) { m.Commit = -1 },
		"too much committed":        func(m *api.Message) { m.Commit = most + 1 },
		"the most committed":        func(m *api.Message) { m.Commit = math.MaxInt },
		"too much data":             func(m *api.Message) { m.Data = long },
		"17 entries":                func(m *api.Message) { m.Entries = make([]api.Entry, 17); m.At = 0 },
		"an entry below At":         func(m *api.Message) { m.At, m.Entries = 3, entries(m.Index+1, 2, 3) },
		"an entry's term below 0":   func(m *api.Message) { m.At, m.Entries = 0, entries(m.Index+1, -1) },
		"an entry above its term":   func(m *api.Message) { m.Entries = entries(m.Index+1, 8) },
		"a last entry above it":     func(m *api.Message) { m.Entries = entries(m.Index+1, 6, 7, 8) },
		"entries that go down":      func(m *api.Message) { m.Entries = entries(m.Index+1, 7, 6, 7) },
		"a last entry that goes so": func(m *api.Message) { m.Entries = entries(m.Index+1, 6, 7, 6) },
		"an entry of too much":      func(m *api.Message) { m.Entries = []api.Entry{{Term: 6}, {Term: 6, Data: long}} },
	} {
		for _, m := range anyKind() {
			turn(&m)
			n := begun(t, 1, 4, saved(5, 7, 2, 2, 3))
			if heard(n, m) {
				t.Errorf("%s, kind %d: heard", what, m.Kind)
			}
			records(t, what, n)
		}
	}
}

// Of a node whose term is 0 a message of a later term than its own may still be of none.
func TestNoMessageOfNoTerm(t *testing.T) {
	for _, term := range []int{0, -1, math.MinInt} {
		for _, m := range anyKind() {
			m.Term, m.Index, m.At, m.Entries = term, 1, 0, nil
			if n := begun(t, 1, 4, api.Saved{Vote: -1}); heard(n, m) {
				t.Errorf("term %d, kind %d: heard", term, m.Kind)
			}
		}
	}
	n := begun(t, 1, 4, api.Saved{Vote: -1})
	sends(t, "term 1", n.Receive(vote(2, 1, 1, 0, 0)), voted(1, 2, 1, true))
	alone := begun(t, 0, 1, api.Saved{Vote: -1})
	for _, from := range []int{0, 1} {
		if heard(alone, vote(from, 0, 1, 0, 0)) {
			t.Errorf("one node heard %d", from)
		}
	}
}

// What lies in the room behind a list's end is not read.
func TestRoomBehindTheEntriesIsNotRead(t *testing.T) {
	list := entries(10, 3, 6, 1, 99)
	n := begun(t, 1, 4, saved(5, 7, 2, 2, 3))
	sends(t, "Receive", n.Receive(appends(2, 1, 7, 9, 3, 7, list[:2]...)), appended(1, 2, 7, true, 11))
	s := saved(5, 7, 2, 2, 3)
	is(t, "Receive", n, api.Follower, 2, 7, 10, more(with(s, 7, -1), list[:2]...))
}

// A later term is taken first, whatever the kind is, and by each role.
func TestALaterTermIsTakenFirst(t *testing.T) {
	s := saved(4, 7, 2, 2, 3)
	x := api.Entry{Term: 5}
	for role, make := range map[int]func(*testing.T, int, int, api.Saved) *raft.Node{
		api.Follower: begun, api.Candidate: candidate, api.Leader: leader,
	} {
		for _, m := range []api.Message{voted(2, 1, 7, true), voted(2, 1, 7, false), appended(2, 1, 7, true, 9), appended(2, 1, 7, false, 9)} {
			n := make(t, 1, 4, s)
			n.Tick(0)
			left := n.Left()
			n.Records()
			sends(t, "Receive", n.Receive(m))
			want := with(s, 7, -1)
			if role == api.Leader {
				want = more(want, x)
			}
			is(t, "Receive", n, api.Follower, -1, 7, left, want)
			records(t, "Receive", n, hardRecord(7, -1))
		}
	}
}

// Of a term that is the node's own nothing is taken first: what it has it keeps.
func TestItsOwnTermChangesNothingFirst(t *testing.T) {
	s := with(saved(4, 7, 2, 2, 3), 4, 3)
	for _, m := range []api.Message{voted(2, 1, 4, true), appended(2, 1, 4, true, 9), appended(2, 1, 4, false, 9)} {
		n := begun(t, 1, 4, s)
		n.Receive(appends(3, 1, 4, 9, 3, 7))
		n.Tick(0)
		sends(t, "Receive", n.Receive(m))
		is(t, "Receive", n, api.Follower, 3, 7, 9, s)
		records(t, "Receive", n)
	}
}

// Of an earlier term than its own no answer to a node is anything.
func TestAnswersOfAnEarlierTermAreNothing(t *testing.T) {
	s := saved(4, 7, 2, 2, 3)
	for _, make := range []func(*testing.T, int, int, api.Saved) *raft.Node{begun, candidate, leader} {
		for _, m := range []api.Message{voted(2, 1, 3, true), voted(0, 1, 3, false), appended(2, 1, 3, true, 9), appended(2, 1, 3, false, 9)} {
			n := make(t, 1, 4, s)
			before := tell(n)
			n.Records()
			sends(t, "Receive", n.Receive(m))
			if now := tell(n); now != before {
				t.Errorf("kind %d: %s, not %s", m.Kind, now, before)
			}
			records(t, "Receive", n)
		}
	}
}
