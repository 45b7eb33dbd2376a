package group_test

import (
	"rookery/api"
	"rookery/group"
	"strings"
	"testing"
)

// snap is a letter that brings a base to the node 1 of a group.
func snap(of, term, index, at int, data string) api.Message {
	return api.Message{Kind: api.MsgSnap, Group: of, From: 0, To: 1, Term: term, Index: index, At: at, Commit: index, Data: data}
}

// appends is a letter that brings entries to the node 1 of a group.
func appends(of, term, index, at, commit int, entries ...api.Entry) api.Message {
	return api.Message{Kind: api.MsgAppend, Group: of, From: 0, To: 1, Term: term, Index: index, At: at, Commit: commit, Entries: entries}
}

// TestBaseThatComes: the machine is the one of its data, or a new one; all up to it is done, without being told; what comes behind it is done by that machine.
func TestBaseThatComes(t *testing.T) {
	c := channel(t, 1)
	full := []string{bytesOf(t, 0, 2, begins(1, 1, closes("w"))), bytesOf(t, 1, 2, does(1, 1, makes(c)))}
	next := []api.Command{begins(1, 1, closes("w")), does(2, 1, makes(c))}
	for of, right := range full {
		wrongs := []string{"", "none", right[1:], right[:len(right)-1], right + "x", full[1-of], strings.Repeat("x", api.MaxRecord)}
		for k, data := range append(wrongs, right) {
			b := made(t, of, 2, 1, 3, fresh, 0)
			b.receive(appends(of, 1, 0, 0, 2, api.Entry{Term: 1}, api.Entry{Term: 1}))
			b.records()
			out, did := b.receive(snap(of, 2, 9, 2, data))
			if len(out) != 1 || out[0].Kind != api.MsgAppended || !out[0].Ok || out[0].Index != 9 || len(did) != 0 || b.g.Done() != 9 {
				t.Fatalf("%v, %v; Done: %d", out, did, b.g.Done())
			}
			want, reply := bytesOf(t, of, 2), []api.Reply{{Err: api.ErrBusy, At: 1}, {}}[of]
			if k == len(wrongs) {
				want, reply = right, []api.Reply{{Err: api.ErrBusy}, {Err: api.ErrThere}}[of]
			}
			if s, e := b.g.State(); s != want || e != api.OK {
				t.Errorf("State: %q, %d, not %q", s, e, want)
			}
			if list := b.records(); len(list) != 2 || list[1] != (api.Record{Group: of, Kind: api.RecBase, Index: 9, Term: 2, Data: data}) {
				t.Errorf("Records: %v", list)
			}
			if b.compact(0) {
				t.Error("Compact: nothing is done behind the base")
			}
			_, did = b.receive(appends(of, 2, 9, 2, 11, api.Entry{Term: 2, Data: put(t, next[of])}, api.Entry{Term: 2, Data: "none"}))
			if want := []group.Applied{{Index: 10, Command: next[of], Reply: reply}, {Index: 11}}; !sameApplied(did, want) {
				t.Errorf("%+v, not %+v", did, want)
			}
			if b.compact(3) || !b.compact(2) {
				t.Error("Compact")
			}
		}
	}
}

// TestBaseOfNoMachineIsNotBegunWith: a part whose base came with such data can't begin anew as it was saved; one that compacted since then can.
func TestBaseOfNoMachineIsNotBegunWith(t *testing.T) {
	b := made(t, 1, 2, 1, 3, fresh, 0)
	b.receive(snap(1, 2, 9, 2, "none"))
	refuses(t, 1, 2, 1, 3, b.g.Saved(), 0, api.ErrCommand)
	b.receive(appends(1, 2, 9, 2, 10, api.Entry{Term: 2}))
	if !b.compact(1) {
		t.Fatal("Compact")
	}
	b.begin(1, 3, 0)
}

// TestBaseThatIsNone: one that is behind what is done, or that another one sent, changes nothing.
func TestBaseThatIsNone(t *testing.T) {
	c := channel(t, 1)
	data := bytesOf(t, 1, 2, does(1, 1, makes(c)))
	for _, m := range []api.Message{
		snap(1, 2, 3, 1, data), snap(1, 2, 1, 1, data), snap(1, 2, 0, 0, data), // done already
		snap(1, 1, 9, 1, data),                         // of an earlier term
		snap(2, 2, 9, 1, data), snap(0, 2, 9, 1, data), // another group's
		snap(1, 2, api.MaxIndex+1, 1, data), snap(1, 2, 9, -1, data), // they may not be
		snap(1, 2, 9, 1, strings.Repeat("x", api.MaxRecord+1)), {Group: 1, Kind: 9, To: 1, Term: 2, Index: 9},
	} {
		b := made(t, 1, 2, 1, 3, fresh, 0)
		b.receive(appends(1, 2, 0, 0, 3, api.Entry{Term: 1}, api.Entry{Term: 1}, api.Entry{Term: 1}, api.Entry{Term: 2, Data: put(t, does(1, 1, makes(c)))}))
		if _, did := b.receive(m); len(did) != 0 || b.g.Done() != 3 {
			t.Errorf("%v: %v; Done: %d", m, did, b.g.Done())
		}
		if s, _ := b.g.State(); s != bytesOf(t, 1, 2) {
			t.Errorf("State: %q", s)
		}
		if _, did := b.receive(appends(1, 2, 4, 2, 4)); len(did) != 1 || did[0].Index != 4 {
			t.Errorf("%v", did)
		}
	}
}

// TestEntriesBehindABaseThatComes: they stay, if the base is the entry that stood there; else they are none.
func TestEntriesBehindABaseThatComes(t *testing.T) {
	c := channel(t, 1)
	data := bytesOf(t, 1, 2, does(1, 1, makes(c)))
	join := does(1, 2, joins(c, "ann"))
	for at := 1; at <= 2; at++ {
		b := made(t, 1, 2, 1, 3, fresh, 0)
		b.receive(appends(1, 1, 0, 0, 1, api.Entry{Term: 1}, api.Entry{Term: 1}, api.Entry{Term: 1}, api.Entry{Term: 1, Data: put(t, join)}, api.Entry{Term: 1}))
		b.receive(snap(1, 2, 3, at, data))
		_, did := b.receive(appends(1, 2, 3, at, 5))
		if len(did) != 0 || b.g.Done() != 3 {
			t.Errorf("%v; Done: %d", did, b.g.Done())
		}
		if at == 1 {
			_, did = b.receive(appends(1, 2, 4, 1, 4))
		} else {
			_, did = b.receive(appends(1, 2, 3, 2, 4, api.Entry{Term: 2, Data: put(t, join)}))
		}
		if want := []group.Applied{{Index: 4, Command: join}}; !sameApplied(did, want) {
			t.Errorf("%v, not %v", did, want)
		}
		if b.compact(2) || !b.compact(1) {
			t.Error("Compact")
		}
	}
}

// TestCommitBehindTheLog: letters that no leader sends may tell of what the log refuses; what is not there is done when it comes.
func TestCommitBehindTheLog(t *testing.T) {
	c := channel(t, 1)
	b := made(t, 1, 2, 1, 3, fresh, 0)
	b.receive(snap(1, 5, 10, 9, ""))                                                     // the base is of a later term than its letter
	_, did := b.receive(appends(1, 5, 9, 4, 12, api.Entry{Term: 4}, api.Entry{Term: 5})) // the second one is refused
	if len(did) != 0 || b.g.Done() != 10 || b.compact(0) {
		t.Fatalf("%v; Done: %d", did, b.g.Done())
	}
	_, did = b.receive(appends(1, 9, 10, 9, 0, api.Entry{Term: 9, Data: put(t, does(1, 1, makes(c)))}))
	if want := []group.Applied{{Index: 11, Command: does(1, 1, makes(c))}}; !sameApplied(did, want) || b.g.Done() != 11 {
		t.Errorf("%v, not %v; Done: %d", did, want, b.g.Done())
	}
}

// TestProposeBehindALaterTerm: the log of a leader whose base is of a later term than its own refuses each entry; layer 7 answers the base's index.
func TestProposeBehindALaterTerm(t *testing.T) {
	b := made(t, 1, 2, 1, 3, fresh, 0)
	b.receive(snap(1, 5, 10, 9, ""))
	for range 10 {
		b.tick(0)
	}
	b.receive(api.Message{Kind: api.MsgVoted, Group: 1, From: 2, To: 1, Term: 6, Ok: true})
	n, out, did, e := b.propose(api.Command{})
	if !b.g.Leads() || n != 10 || len(out) != 2 || len(did) != 0 || e != api.OK {
		t.Errorf("Propose: %d, %v, %v, %d", n, out, did, e)
	}
}
