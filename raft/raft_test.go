package raft_test

import (
	"fmt"
	"math"
	"reflect"
	"rookery/api"
	"rookery/raft"
	"strconv"
	"strings"
	"testing"
)

// group is the one whose nodes are tested.
const group = 4

// entries have these terms, and as data the indexes at which they stand, if the first one stands at an index.
func entries(index int, terms ...int) []api.Entry {
	var list []api.Entry
	for i, term := range terms {
		list = append(list, api.Entry{Term: term, Data: strconv.Itoa(index + i)})
	}
	return list
}

// saved is a node that did not vote, whose entries have these terms.
func saved(term, base, baseTerm int, terms ...int) api.Saved {
	s := api.Saved{Term: term, Vote: -1, Base: base, BaseTerm: baseTerm, Entries: entries(base+1, terms...)}
	if base > 0 {
		s.Data = "up to " + strconv.Itoa(base)
	}
	return s
}

// begun is a node as it was saved, which waits 10 ticks.
func begun(t *testing.T, id, nodes int, s api.Saved) *raft.Node {
	t.Helper()
	n, e := raft.New(group, id, nodes, s, 0)
	if n == nil || e != api.OK {
		t.Fatalf("New(%d, %d, %d, %s, 0): %v, %d", group, id, nodes, tellSaved(s), n, e)
	}
	return n
}

// candidate is a node that stands in the term behind the saved one.
func candidate(t *testing.T, id, nodes int, s api.Saved) *raft.Node {
	t.Helper()
	n := begun(t, id, nodes, s)
	for range 10 {
		n.Tick(0)
	}
	if want := api.Candidate; nodes > 1 && n.Role() != want {
		t.Fatalf("role %d, not %d", n.Role(), want)
	}
	return n
}

// leader is a node that leads in the term behind the saved one, and has one entry more.
func leader(t *testing.T, id, nodes int, s api.Saved) *raft.Node {
	t.Helper()
	n := candidate(t, id, nodes, s)
	for from := range nodes {
		if from != id {
			n.Receive(voted(from, id, s.Term+1, true))
		}
	}
	if n.Role() != api.Leader {
		t.Fatalf("role %d: it does not lead", n.Role())
	}
	return n
}

func vote(from, to, term, index, at int) api.Message {
	return api.Message{Kind: api.MsgVote, Group: group, From: from, To: to, Term: term, Index: index, At: at}
}

func voted(from, to, term int, ok bool) api.Message {
	return api.Message{Kind: api.MsgVoted, Group: group, From: from, To: to, Term: term, Ok: ok}
}

func appends(from, to, term, index, at, commit int, list ...api.Entry) api.Message {
	return api.Message{Kind: api.MsgAppend, Group: group, From: from, To: to, Term: term, Index: index, At: at, Commit: commit, Entries: list}
}

func appended(from, to, term int, ok bool, index int) api.Message {
	return api.Message{Kind: api.MsgAppended, Group: group, From: from, To: to, Term: term, Ok: ok, Index: index}
}

func snap(from, to, term, index, at, commit int, data string) api.Message {
	return api.Message{Kind: api.MsgSnap, Group: group, From: from, To: to, Term: term, Index: index, At: at, Commit: commit, Data: data}
}

func hardRecord(term, vote int) api.Record {
	return api.Record{Group: group, Kind: api.RecHard, Term: term, Vote: vote}
}

func entryRecord(index, term int, data string) api.Record {
	return api.Record{Group: group, Kind: api.RecEntry, Index: index, Term: term, Data: data}
}

func cutRecord(index int) api.Record {
	return api.Record{Group: group, Kind: api.RecCut, Index: index}
}

func baseRecord(index, term int, data string) api.Record {
	return api.Record{Group: group, Kind: api.RecBase, Index: index, Term: term, Data: data}
}

// short is data as a text that fits on a line.
func short(data string) string {
	if len(data) > 40 {
		return fmt.Sprintf("%q.. of %d", data[:10], len(data))
	}
	return fmt.Sprintf("%q", data)
}

// tellSaved is what was saved, as text; nil and the empty list are told alike.
func tellSaved(s api.Saved) string {
	var b strings.Builder
	fmt.Fprintf(&b, "term %d vote %d base %d/%d %s entries", s.Term, s.Vote, s.Base, s.BaseTerm, short(s.Data))
	for _, x := range s.Entries {
		fmt.Fprintf(&b, " %d:%s", x.Term, short(x.Data))
	}
	return b.String()
}

// tell is a node, as text.
func tell(n *raft.Node) string {
	return fmt.Sprintf("role %d lead %d commit %d left %d, %s", n.Role(), n.Lead(), n.Commit(), n.Left(), tellSaved(n.Saved()))
}

// alike makes nil of empty lists, which are the same.
func alike(list []api.Message) []api.Message {
	var out []api.Message
	for _, m := range list {
		if len(m.Entries) == 0 {
			m.Entries = nil
		}
		out = append(out, m)
	}
	return out
}

// sends asks that these messages were sent, and no others.
func sends(t *testing.T, what string, got []api.Message, want ...api.Message) {
	t.Helper()
	if got, want := alike(got), alike(want); !reflect.DeepEqual(got, want) {
		t.Errorf("%s: sends\n%+v, not\n%+v", what, got, want)
	}
}

// is asks that a node is so.
func is(t *testing.T, what string, n *raft.Node, role, lead, commit, left int, s api.Saved) {
	t.Helper()
	want := fmt.Sprintf("role %d lead %d commit %d left %d, %s", role, lead, commit, left, tellSaved(s))
	if got := tell(n); got != want {
		t.Errorf("%s:\n%s, not\n%s", what, got, want)
	}
}

// records asks that a node tells these records, and no others.
func records(t *testing.T, what string, n *raft.Node, want ...api.Record) {
	t.Helper()
	if got := n.Records(); len(got)+len(want) > 0 && !reflect.DeepEqual(got, want) {
		t.Errorf("%s: records\n%+v, not\n%+v", what, got, want)
	}
	if again := n.Records(); len(again) != 0 {
		t.Errorf("%s: told again: %+v", what, again)
	}
}

// need asks that a call is answered so.
func need(t *testing.T, what string, got, want api.Errno) {
	t.Helper()
	if got != want {
		t.Errorf("%s: %d, not %d", what, got, want)
	}
}

// with is a saved node of another term and vote.
func with(s api.Saved, term, vote int) api.Saved {
	s.Term, s.Vote = term, vote
	return s
}

// more is a saved node with more entries.
func more(s api.Saved, list ...api.Entry) api.Saved {
	s.Entries = append(append([]api.Entry{}, s.Entries...), list...)
	return s
}

// long is data of one byte more than may be.
var long = strings.Repeat("x", 1<<18+1)

func TestNewAtEachBoundOfItsNumbers(t *testing.T) {
	none := api.Saved{Vote: -1}
	for _, c := range []struct {
		group, id, nodes, draw int
		e                      api.Errno
	}{
		{0, 0, 1, 0, api.OK}, {8, 0, 1, 0, api.OK}, {9, 0, 1, 0, api.ErrArg}, {-1, 0, 1, 0, api.ErrArg},
		{math.MinInt, 0, 1, 0, api.ErrArg}, {math.MaxInt, 0, 1, 0, api.ErrArg},
		{0, 0, 0, 0, api.ErrArg}, {0, 0, -1, 0, api.ErrArg}, {0, 0, 7, 0, api.OK}, {0, 0, 8, 0, api.ErrArg},
		{0, 0, math.MinInt, 0, api.ErrArg}, {0, 0, math.MaxInt, 0, api.ErrArg}, {0, 0, 2, 0, api.OK}, {0, 1, 4, 0, api.OK},
		{0, -1, 3, 0, api.ErrArg}, {0, 2, 3, 0, api.OK}, {0, 3, 3, 0, api.ErrArg}, {0, 6, 7, 0, api.OK}, {0, 7, 7, 0, api.ErrArg},
		{0, 1, 1, 0, api.ErrArg}, {0, math.MinInt, 3, 0, api.ErrArg}, {0, math.MaxInt, 3, 0, api.ErrArg},
		{0, 0, 3, -1, api.ErrArg}, {0, 0, 3, math.MinInt, api.ErrArg}, {0, 0, 3, math.MaxInt, api.OK},
	} {
		n, e := raft.New(c.group, c.id, c.nodes, none, c.draw)
		if e != c.e || (n != nil) != (e == api.OK) {
			t.Errorf("New(%d, %d, %d, .., %d): %v, %d", c.group, c.id, c.nodes, c.draw, n, e)
		}
	}
}

func TestNewAtEachBoundOfWhatWasSaved(t *testing.T) {
	const most = 1 << 40
	for what, c := range map[string]struct {
		s api.Saved
		e api.Errno
	}{
		"nothing":                        {api.Saved{}, api.OK},
		"a term below 0":                 {api.Saved{Term: -1}, api.ErrArg},
		"the highest term":               {api.Saved{Term: most}, api.OK},
		"a term too high":                {api.Saved{Term: most + 1}, api.ErrArg},
		"the least term":                 {api.Saved{Term: math.MinInt}, api.ErrArg},
		"no vote":                        {api.Saved{Vote: -1}, api.OK},
		"a vote below none":              {api.Saved{Vote: -2}, api.ErrArg},
		"the last one's vote":            {api.Saved{Vote: 2}, api.OK},
		"nobody's vote":                  {api.Saved{Vote: 3}, api.ErrArg},
		"much data":                      {api.Saved{Data: long[1:]}, api.OK},
		"too much data":                  {api.Saved{Data: long}, api.ErrArg},
		"a base below 0":                 {api.Saved{Base: -1}, api.ErrArg},
		"the highest base":               {api.Saved{Base: most}, api.OK},
		"a base too high":                {api.Saved{Base: most + 1}, api.ErrArg},
		"a base's term below 0":          {api.Saved{BaseTerm: -1}, api.ErrArg},
		"the highest base's term":        {api.Saved{Term: most, BaseTerm: most}, api.OK},
		"a base's term too high":         {api.Saved{Term: most, BaseTerm: most + 1}, api.ErrArg},
		"a base of the term":             {saved(3, 7, 3), api.OK},
		"a base above the term":          {saved(3, 7, 4), api.ErrArg},
		"entries up to the term":         {saved(3, 7, 1, 1, 2, 3), api.OK},
		"entries below the term":         {saved(4, 7, 1, 1, 2, 3), api.OK},
		"a last entry above the term":    {saved(2, 7, 1, 1, 2, 3), api.ErrArg},
		"an only entry above the term":   {saved(0, 0, 0, 1), api.ErrArg},
		"entries that go down":           {saved(3, 7, 1, 1, 3, 2), api.ErrArg},
		"an entry below its base":        {saved(3, 7, 2, 1, 3), api.ErrArg},
		"an entry's term below 0":        {saved(3, 0, 0, -1), api.ErrArg},
		"an entry's term too high":       {saved(most, 0, 0, most+1), api.ErrArg},
		"an entry of the highest term":   {saved(most, 0, 0, most), api.OK},
		"an entry of much data":          {more(saved(3, 0, 0), api.Entry{Term: 1, Data: long[1:]}), api.OK},
		"an entry of too much data":      {more(saved(3, 0, 0), api.Entry{Term: 1, Data: long}), api.ErrArg},
		"an entry at the highest index":  {saved(3, most-1, 0, 1), api.OK},
		"an entry above highest index":   {saved(3, most-1, 0, 1, 1), api.ErrArg},
		"an entry behind highest base":   {saved(3, most, 0, 1), api.ErrArg},
		"more than a message's entries":  {more(saved(3, 2, 0), make([]api.Entry, 40)...), api.OK},
		"a term, vote, base and entries": {with(saved(5, 7, 2, 2, 3, 3), 5, 1), api.OK},
	} {
		n, e := raft.New(group, 0, 3, c.s, 4)
		if e != c.e || (n != nil) != (e == api.OK) {
			t.Errorf("%s: %v, %d", what, n, e)
		}
		if e == api.OK {
			is(t, what, n, api.Follower, -1, c.s.Base, 14, c.s)
			records(t, what, n)
		}
	}
}

func TestNewWaitsTenTicksAndTheDrawModuloTen(t *testing.T) {
	for draw, left := range map[int]int{0: 10, 1: 11, 9: 19, 10: 10, 11: 11, 25: 15, 99: 19, math.MaxInt: 10 + math.MaxInt%10} {
		n, e := raft.New(group, 1, 3, api.Saved{Vote: -1}, draw)
		if e != api.OK || n.Left() != left {
			t.Errorf("draw %d: %d left, %d", draw, n.Left(), e)
		}
	}
}

func TestTickDownToZeroAndOneMore(t *testing.T) {
	s := saved(4, 7, 2, 2, 3)
	n := begun(t, 1, 4, s)
	for left := 9; left > 0; left-- {
		sends(t, "Tick", n.Tick(7), []api.Message{}...)
		is(t, "Tick", n, api.Follower, -1, 7, left, s)
	}
	records(t, "ahead of standing", n)
	sends(t, "the last Tick", n.Tick(7), vote(1, 0, 5, 9, 3), vote(1, 2, 5, 9, 3), vote(1, 3, 5, 9, 3))
	is(t, "the last Tick", n, api.Candidate, -1, 7, 17, with(s, 5, 1))
	records(t, "standing", n, hardRecord(5, 1))
	sends(t, "one more", n.Tick(3))
	is(t, "one more", n, api.Candidate, -1, 7, 16, with(s, 5, 1))
	for range 15 {
		sends(t, "Tick of a candidate", n.Tick(3))
	}
	sends(t, "standing again", n.Tick(3), vote(1, 0, 6, 9, 3), vote(1, 2, 6, 9, 3), vote(1, 3, 6, 9, 3))
	is(t, "standing again", n, api.Candidate, -1, 7, 13, with(s, 6, 1))
	records(t, "standing again", n, hardRecord(6, 1))
}

func TestTickOfAFollowerThatKnowsItsLeader(t *testing.T) {
	s := saved(4, 0, 0, 2)
	n := begun(t, 0, 3, with(s, 4, 2))
	n.Receive(appends(2, 0, 4, 1, 2, 0))
	is(t, "it is led", n, api.Follower, 2, 0, 10, with(s, 4, 2))
	for range 9 {
		n.Tick(0)
	}
	is(t, "nearly", n, api.Follower, 2, 0, 1, with(s, 4, 2))
	sends(t, "standing", n.Tick(0), vote(0, 1, 5, 1, 2), vote(0, 2, 5, 1, 2))
	is(t, "standing", n, api.Candidate, -1, 0, 10, with(s, 5, 0))
}

func TestTickDrawsItsWait(t *testing.T) {
	for draw, left := range map[int]int{0: 10, 1: 11, 9: 19, 10: 10, 19: 19, 123: 13, math.MaxInt: 10 + math.MaxInt%10,
		-1: 10, -7: 10, -10: 10, math.MinInt: 10} {
		n := begun(t, 0, 2, api.Saved{Vote: -1})
		for range 9 {
			n.Tick(5) // a draw that comes too soon is nothing
		}
		n.Tick(draw)
		if n.Left() != left || n.Role() != api.Candidate {
			t.Errorf("draw %d: %d left, role %d", draw, n.Left(), n.Role())
		}
		n.Receive(appends(1, 0, 1, 0, 0, 0))
		if n.Left() != left {
			t.Errorf("draw %d: it waits %d", draw, n.Left())
		}
	}
}

func TestOneNodeLeadsAtOnce(t *testing.T) {
	s := with(saved(4, 7, 2, 2, 3), 4, 0)
	n := begun(t, 0, 1, s)
	for range 9 {
		n.Tick(0)
	}
	sends(t, "Tick", n.Tick(6))
	is(t, "Tick", n, api.Leader, 0, 10, 16, more(with(s, 5, 0), api.Entry{Term: 5}))
	records(t, "Tick", n, hardRecord(5, 0), entryRecord(10, 5, ""))
	sends(t, "Tick of a leader", n.Tick(6))
	is(t, "Tick of a leader", n, api.Leader, 0, 10, 16, more(with(s, 5, 0), api.Entry{Term: 5}))
	records(t, "Tick of a leader", n)
}

func TestStandingAtTheHighestTerm(t *testing.T) {
	const most = 1 << 40
	for _, nodes := range []int{1, 3} {
		s := with(saved(most, 0, 0, 2), most, 0)
		n := begun(t, 0, nodes, s)
		for range 9 {
			n.Tick(0)
		}
		sends(t, "Tick", n.Tick(7))
		is(t, "Tick", n, api.Follower, -1, 0, 10, s)
		records(t, "Tick", n)
		s = with(s, most-1, -1)
		n = begun(t, 0, nodes, s)
		for range 10 {
			n.Tick(8)
		}
		if got := n.Saved(); got.Term != most || got.Vote != 0 || n.Role() == api.Follower || n.Left() != 18 {
			t.Errorf("one below the highest term, %d nodes: %s", nodes, tell(n))
		}
	}
	n := candidate(t, 0, 3, saved(most-1, 0, 0))
	for range 10 {
		sends(t, "Tick of a candidate", n.Tick(3))
	}
	is(t, "a candidate", n, api.Candidate, -1, 0, 10, api.Saved{Term: most, Vote: 0})
}

func TestTickOfALeaderTellsAllOthers(t *testing.T) {
	s := saved(4, 7, 2, 2, 3)
	n := leader(t, 1, 4, s)
	x := api.Entry{Term: 5}
	sends(t, "Tick", n.Tick(3), appends(1, 0, 5, 9, 3, 7, x), appends(1, 2, 5, 9, 3, 7, x), appends(1, 3, 5, 9, 3, 7, x))
	is(t, "Tick", n, api.Leader, 1, 7, 10, more(with(s, 5, 1), x))
	n.Receive(appended(2, 1, 5, true, 10))
	sends(t, "one has it", n.Tick(3), appends(1, 0, 5, 9, 3, 7, x), appends(1, 2, 5, 10, 5, 7), appends(1, 3, 5, 9, 3, 7, x))
	n.Receive(appended(3, 1, 5, true, 10))
	sends(t, "it is committed", n.Tick(-3), appends(1, 0, 5, 9, 3, 10, x), appends(1, 2, 5, 10, 5, 10), appends(1, 3, 5, 10, 5, 10))
	is(t, "behind it", n, api.Leader, 1, 10, 10, more(with(s, 5, 1), x))
}

func TestTheChaptersExample(t *testing.T) {
	n := begun(t, 2, 3, api.Saved{Vote: -1})
	for range 9 {
		n.Tick(0)
	}
	sends(t, "standing", n.Tick(0), vote(2, 0, 1, 0, 0), vote(2, 1, 1, 0, 0))
	other := begun(t, 0, 3, api.Saved{Vote: -1})
	sends(t, "voting", other.Receive(vote(2, 0, 1, 0, 0)), voted(0, 2, 1, true))
	x := api.Entry{Term: 1}
	sends(t, "leading", n.Receive(voted(0, 2, 1, true)), appends(2, 0, 1, 0, 0, 0, x), appends(2, 1, 1, 0, 0, 0, x))
	is(t, "leading", n, api.Leader, 2, 0, 10, api.Saved{Term: 1, Vote: 2, Entries: []api.Entry{x}})
}

// refuses asks that a node which New did not give answers nothing.
func refuses(t *testing.T, n *raft.Node) {
	t.Helper()
	for range 25 {
		sends(t, "Tick", n.Tick(0))
	}
	for _, m := range []api.Message{{}, vote(1, 0, 1, 0, 0), voted(1, 0, 1, true), appends(1, 0, 1, 0, 0, 0), appended(1, 0, 1, true, 0), snap(1, 0, 1, 1, 1, 1, "x")} {
		m.Group = 0
		sends(t, "Receive", n.Receive(m))
	}
	for _, data := range []string{"", "x", long} {
		if index, term, out, e := n.Propose(data); index != 0 || term != 0 || len(out) != 0 || e != api.ErrArg {
			t.Errorf("Propose: %d, %d, %v, %d", index, term, out, e)
		}
		for _, index := range []int{-1, 0, 1} {
			need(t, "Compact", n.Compact(index, data), api.ErrArg)
		}
	}
	records(t, "Records", n)
	if s := n.Saved(); !reflect.DeepEqual(s, api.Saved{}) {
		t.Errorf("Saved: %+v", s)
	}
	if n.Role() != 0 || n.Lead() != 0 || n.Commit() != 0 || n.Left() != 0 {
		t.Errorf("role %d lead %d commit %d left %d", n.Role(), n.Lead(), n.Commit(), n.Left())
	}
}

func TestANodeThatNewDidNotGive(t *testing.T) {
	refuses(t, nil)
	refuses(t, &raft.Node{})
	n, _ := raft.New(group, 3, 3, api.Saved{}, 0)
	refuses(t, n)
}
