package raft_test

import (
	"reflect"
	"rookery/api"
	"rookery/disk"
	"rookery/raft"
	"rookery/wal"
	"runtime"
	"slices"
	"strings"
	"testing"
)

// behind is what was saved with records done behind it, by the words of layer 5's chapter, each of which must fit.
func behind(t *testing.T, s api.Saved, list []api.Record) api.Saved {
	t.Helper()
	s.Entries = slices.Clone(s.Entries)
	for _, r := range list {
		last := s.Base + len(s.Entries)
		fits := r.Group == group
		switch r.Kind {
		case api.RecHard:
			fits = fits && r.Index == 0 && r.Data == ""
			s.Term, s.Vote = r.Term, r.Vote
		case api.RecEntry:
			fits = fits && r.Index == last+1 && r.Term <= s.Term && r.Vote == 0
			s.Entries = append(s.Entries, api.Entry{Term: r.Term, Data: r.Data})
		case api.RecCut:
			if fits = fits && r.Index > s.Base && r.Index <= last && r.Term == 0 && r.Vote == 0 && r.Data == ""; fits {
				s.Entries = s.Entries[:r.Index-s.Base-1]
			}
		case api.RecBase:
			fits = fits && r.Index >= s.Base && r.Vote == 0
			if i := r.Index - s.Base - 1; i >= 0 && r.Index <= last && s.Entries[i].Term == r.Term {
				s.Entries = slices.Clone(s.Entries[i+1:])
			} else {
				s.Entries = nil
			}
			s.Base, s.BaseTerm, s.Data = r.Index, r.Term, r.Data
		default:
			fits = false
		}
		if !fits {
			t.Fatalf("%+v does not fit behind %s", r, tellSaved(s))
		}
	}
	return s
}

func TestRecordsCallByCall(t *testing.T) {
	first := saved(4, 7, 2, 2, 3)
	n := begun(t, 0, 3, first)
	records(t, "New", n)
	for range 10 {
		n.Tick(0)
	}
	n.Receive(voted(1, 0, 5, true))
	n.Propose("a")
	n.Propose("b")
	n.Receive(appended(1, 0, 5, true, 11))
	n.Compact(10, "up to 10")
	n.Receive(appends(2, 0, 7, 11, 5, 11, entries(12, 6, 7)...)) // cuts b
	n.Receive(vote(1, 0, 8, 13, 7))
	n.Receive(vote(1, 0, 8, 13, 7)) // again: nothing changes
	n.Receive(snap(1, 0, 8, 20, 8, 20, "up to 20"))
	n.Receive(appends(1, 0, 8, 20, 8, 21, entries(21, 8)...))
	want := []api.Record{
		hardRecord(5, 0),
		entryRecord(10, 5, ""),
		entryRecord(11, 5, "a"),
		entryRecord(12, 5, "b"),
		baseRecord(10, 5, "up to 10"),
		hardRecord(7, -1), cutRecord(12), entryRecord(12, 6, "12"), entryRecord(13, 7, "13"),
		hardRecord(8, 1),
		baseRecord(20, 8, "up to 20"),
		entryRecord(21, 8, "21"),
	}
	got := n.Records()
	if !reflect.DeepEqual(got, want) {
		t.Errorf("records\n%+v, not\n%+v", got, want)
	}
	records(t, "nothing since", n)
	if s, now := behind(t, first, got), n.Saved(); tellSaved(s) != tellSaved(now) {
		t.Errorf("saved\n%s, not\n%s", tellSaved(s), tellSaved(now))
	}
	// Whatever was saved lets a node begin anew.
	for k := range len(got) + 1 {
		s := behind(t, first, got[:k])
		is(t, "anew", begun(t, 0, 3, s), api.Follower, -1, s.Base, 10, s)
	}
}

// What a node records fits its log (layer 5), and comes back from it as it was saved.
func TestRecordsFitTheNodesLog(t *testing.T) {
	d, _ := disk.New(1 << 20)
	log, e := wal.Open(d, 4096)
	need(t, "wal.Open", e, api.OK)
	n := begun(t, 0, 3, api.Saved{Vote: -1})
	keep := func(out []api.Message) {
		t.Helper()
		for _, r := range n.Records() {
			need(t, "wal.Append", log.Append(r), api.OK)
		}
		if s, e := log.Saved(group); e != api.OK || tellSaved(s) != tellSaved(n.Saved()) {
			t.Errorf("the log has\n%s, %d, not\n%s", tellSaved(s), e, tellSaved(n.Saved()))
		}
	}
	for range 10 {
		keep(n.Tick(0))
	}
	keep(n.Receive(voted(1, 0, 1, true)))
	for _, data := range []string{"a", "", "b"} {
		_, _, out, _ := n.Propose(data)
		keep(out)
	}
	keep(n.Receive(appended(1, 0, 1, true, 3)))
	need(t, "Compact", n.Compact(2, "up to 2"), api.OK)
	keep(nil)
	keep(n.Receive(appends(2, 0, 3, 3, 1, 3, entries(4, 2, 3, 3)...)))
	keep(n.Receive(snap(2, 0, 3, 4, 2, 4, "up to 4")))
	keep(n.Receive(vote(1, 0, 4, 9, 4)))
	keep(n.Receive(snap(1, 0, 4, 5, 4, 5, "up to 5")))
	keep(n.Receive(snap(1, 0, 4, 9, 4, 9, "up to 9")))
	keep(n.Receive(appends(1, 0, 4, 9, 4, 9, entries(10, 4)...)))
	is(t, "at the end", n, api.Follower, 1, 9, 10, api.Saved{Term: 4, Vote: 1, Base: 9, BaseTerm: 4, Data: "up to 9", Entries: entries(10, 4)})
}

// Questions, and what is refused, leave no records, and take none away but those that are told.
func TestRecordsOfQuestions(t *testing.T) {
	n := leader(t, 0, 3, saved(4, 7, 2, 2, 3))
	n.Records()
	n.Tick(0)
	n.Saved()
	n.Receive(appended(1, 0, 5, true, 10))
	n.Receive(vote(2, 0, 5, 99, 5))
	n.Receive(api.Message{})
	n.Compact(5, "")
	n.Compact(11, "")
	n.Propose(long)
	records(t, "nothing", n)
	n.Propose("a")
	n.Saved()
	n.Role()
	n.Lead()
	n.Commit()
	n.Left()
	records(t, "one", n, entryRecord(11, 5, "a"))
}

// An answer's lists are new memory: whoever writes there changes neither the node nor another answer.
func TestAnswersAreNewMemory(t *testing.T) {
	s := saved(4, 7, 2, 2, 3)
	n := leader(t, 0, 3, s)
	_, _, out, _ := n.Propose("a")
	again := n.Tick(0)
	keep := alike(again)
	keep[0].Entries = slices.Clone(keep[0].Entries)
	for i := range out {
		for j := range out[i].Entries {
			out[i].Entries[j] = api.Entry{Term: 99, Data: "turned"}
		}
		out[i].Entries = append(out[i].Entries, api.Entry{Term: 99}, api.Entry{Term: 99})
	}
	if !reflect.DeepEqual(again[0], keep[0]) {
		t.Errorf("two answers share memory: %+v", again)
	}
	for j := range again[0].Entries {
		again[0].Entries[j] = api.Entry{Term: 98}
	}
	if again[1].Entries[0].Term != 5 {
		t.Errorf("two messages share memory: %+v", again)
	}
	all := n.Saved()
	for j := range all.Entries {
		all.Entries[j] = api.Entry{Term: 97}
	}
	all.Entries = append(all.Entries, api.Entry{Term: 97})
	list := n.Records()
	for j := range list {
		list[j] = api.Record{}
	}
	list = append(list[:0], make([]api.Record, cap(list))...)
	n.Propose("b")
	n.Propose("c")
	x := []api.Entry{{Term: 5}, {Term: 5, Data: "a"}, {Term: 5, Data: "b"}, {Term: 5, Data: "c"}}
	is(t, "behind it", n, api.Leader, 0, 7, 10, more(with(s, 5, 0), x...))
	for _, r := range list {
		if r != (api.Record{}) {
			t.Errorf("records were written into an answer: %+v", r)
		}
	}
	records(t, "behind it", n, entryRecord(12, 5, "b"), entryRecord(13, 5, "c"))
}

// Neither what handed-in data is a piece of is kept, nor records that were told, nor what is in the base.
func TestWhatIsGoneIsNotKept(t *testing.T) {
	const size, many = 1 << 18, 100
	whole := func() string { return strings.Repeat("x", size) }
	piece := func() string { return whole()[:1] }
	for what, run := range map[string]func() *raft.Node{
		"Propose of pieces": func() *raft.Node {
			n := leader(t, 0, 1, saved(4, 0, 0))
			for range many {
				n.Propose(piece())
			}
			return n
		},
		"Propose and Compact": func() *raft.Node {
			n := leader(t, 0, 1, saved(4, 0, 0))
			for range many {
				index, _, _, _ := n.Propose(whole())
				n.Compact(index, "")
				n.Records()
			}
			return n
		},
		"Compact with pieces": func() *raft.Node {
			n := leader(t, 0, 1, saved(4, 0, 0))
			for range many {
				index, _, _, _ := n.Propose("")
				n.Compact(index, piece())
			}
			return n
		},
		"pieces that are received": func() *raft.Node {
			n := begun(t, 0, 3, api.Saved{Vote: -1})
			for i := range many {
				n.Receive(appends(1, 0, 1, 2*i, 1, 2*i, api.Entry{Term: 1, Data: piece()}))
				n.Receive(snap(1, 0, 1, 2*i+2, 1, 2*i+2, piece()))
			}
			return n
		},
		"New of pieces": func() *raft.Node {
			s := api.Saved{Vote: -1, Term: 1, Data: piece()}
			for range many {
				s.Entries = append(s.Entries, api.Entry{Data: piece()})
			}
			return begun(t, 0, 1, s)
		},
	} {
		before := inUse()
		n := run()
		if held := inUse() - before; held > size/2 {
			t.Errorf("%s: %d bytes are held", what, held)
		}
		runtime.KeepAlive(n)
	}
}

// inUse is how many bytes of memory are held.
func inUse() int {
	runtime.GC()
	runtime.GC()
	var m runtime.MemStats
	runtime.ReadMemStats(&m)
	return int(m.HeapAlloc)
}
