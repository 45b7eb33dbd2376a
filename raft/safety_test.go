package raft_test

import (
	"fmt"
	"rookery/api"
	"rookery/raft"
	"slices"
	"testing"
)

// world is nodes of one group, whose messages are lost, doubled and late, and that begin anew as they were saved.
type world struct {
	t       *testing.T
	seed    uint32
	draw    func(int) int
	nodes   []*raft.Node
	kept    []api.Saved // what each node's records made
	under   []api.Message
	leaders map[int]int       // who led in which term
	done    map[int]api.Entry // what is committed at which index
	in      map[int]int       // in which term it was
	all     map[int]string    // what a base there holds: all entries up to it
	top     int               // up to where all is committed somewhere
	seen    map[int]int       // how often a kind of message came
	begins  int               // how often a node began anew
	cuts    int               // how often entries were cut
}

func newWorld(t *testing.T, seed uint32) *world {
	w := &world{t: t, seed: seed, draw: draws(seed * 2654435761), leaders: map[int]int{}, done: map[int]api.Entry{},
		in: map[int]int{}, all: map[int]string{0: ""}, seen: map[int]int{}}
	for range []int{1, 2, 3, 3, 3, 4, 4, 4, 5, 5, 6, 7}[w.draw(12)] {
		w.kept = append(w.kept, api.Saved{Vote: -1})
	}
	w.nodes = make([]*raft.Node, len(w.kept))
	for k := range w.nodes {
		w.begin(k)
	}
	return w
}

// begin lets a node begin as it was saved.
func (w *world) begin(k int) {
	n, e := raft.New(group, k, len(w.kept), w.kept[k], w.draw(40))
	if e != api.OK {
		w.t.Fatalf("seed %d: New of %s: %d", w.seed, tellSaved(w.kept[k]), e)
	}
	w.nodes[k] = n
	w.begins++
}

// did saves what a node's call did, and then sends what it sent.
func (w *world) did(k int, out []api.Message) {
	list := w.nodes[k].Records()
	for _, r := range list {
		if r.Kind == api.RecCut {
			w.cuts++
		}
	}
	w.kept[k] = behind(w.t, w.kept[k], list)
	if got := w.nodes[k].Saved(); !sameSaved(got, w.kept[k]) {
		w.t.Fatalf("seed %d: saved\n%s, not\n%s", w.seed, tellSaved(got), tellSaved(w.kept[k]))
	}
	w.under = append(w.under, out...)
	w.check(k)
}

// sameSaved is whether two nodes are saved alike.
func sameSaved(a, b api.Saved) bool {
	return a.Term == b.Term && a.Vote == b.Vote && a.Base == b.Base && a.BaseTerm == b.BaseTerm && a.Data == b.Data && slices.Equal(a.Entries, b.Entries)
}

// check asks that what Ra5 says holds with what a node is now.
func (w *world) check(k int) {
	n, s := w.nodes[k], w.kept[k]
	if n.Commit() < s.Base || n.Commit() > s.Base+len(s.Entries) {
		w.t.Fatalf("seed %d: commit %d of %s", w.seed, n.Commit(), tellSaved(s))
	}
	if all, ok := w.all[s.Base]; !ok || s.Data != all || s.Base > 0 && s.BaseTerm != w.done[s.Base].Term {
		w.t.Fatalf("seed %d: the base %s was not committed so", w.seed, tellSaved(s))
	}
	for i := s.Base + 1; i <= n.Commit(); i++ {
		w.commit(i, s.Entries[i-s.Base-1], s.Term)
	}
	if n.Role() != api.Leader {
		return
	}
	if other, ok := w.leaders[s.Term]; ok && other != k {
		w.t.Fatalf("seed %d: term %d has the leaders %d and %d", w.seed, s.Term, other, k)
	}
	w.leaders[s.Term] = k
	for i := s.Base + 1; i <= w.top; i++ {
		if w.in[i] < s.Term && (i > s.Base+len(s.Entries) || s.Entries[i-s.Base-1] != w.done[i]) {
			w.t.Fatalf("seed %d: the leader of term %d lacks what was committed at %d in term %d", w.seed, s.Term, i, w.in[i])
		}
	}
}

// commit asks that no other entry was committed at an index.
func (w *world) commit(i int, x api.Entry, term int) {
	if old, ok := w.done[i]; ok && old != x {
		w.t.Fatalf("seed %d: at %d both %v and %v are committed", w.seed, i, old, x)
	} else if !ok {
		w.done[i], w.in[i] = x, term
		w.all[i] = fmt.Sprintf("%s|%d:%s", w.all[i-1], x.Term, x.Data)
		if len(w.all[i]) > 60 { // a text that tells them apart is enough
			w.all[i] = w.all[i][len(w.all[i])-60:]
		}
		w.top = max(w.top, i)
	}
}

// arrive lets some message under way arrive, be lost, or be there twice.
func (w *world) arrive(p phase) {
	if len(w.under) == 0 {
		return
	}
	i := w.draw(min(len(w.under), p.late))
	m := w.under[i]
	if w.draw(100) >= p.twice {
		w.under = append(w.under[:i:i], w.under[i+1:]...)
	}
	if w.draw(100) < p.lost || p.side[m.From] != p.side[m.To] {
		return
	}
	w.seen[m.Kind]++
	w.did(m.To, w.nodes[m.To].Receive(m))
}

// tick lets a clock tick, or some so often that its node stands at once.
func (w *world) tick(k int, p phase) {
	times := 1
	if w.draw(p.calm) == 0 {
		times = w.nodes[k].Left()
	}
	for range times {
		w.did(k, w.nodes[k].Tick(w.draw(50)-5))
		if w.nodes[k].Role() == api.Leader {
			return
		}
	}
}

// propose lets those that lead, or believe so, append something.
func (w *world) propose(step int) {
	for k, n := range w.nodes {
		if n.Role() == api.Leader {
			_, _, out, e := n.Propose(fmt.Sprint(k, " at ", step))
			need(w.t, "Propose", e, api.OK)
			w.did(k, out)
		}
	}
}

// compact lets a node compact some of what it committed.
func (w *world) compact(k int) {
	n, base := w.nodes[k], w.kept[k].Base
	if n.Commit() == base {
		return
	}
	index := base + 1 + w.draw(n.Commit()-base)
	need(w.t, "Compact", n.Compact(index, w.all[index]), api.OK)
	w.did(k, nil)
}

// phase is how wild a time is, and who does not hear whom in it.
type phase struct {
	lost, twice, crash, ticks, late int
	calm                            int // of how many ticks one is of a clock that ran ahead
	side                            []int
}

func (w *world) phase() phase {
	p := phase{w.draw(4) * 10, w.draw(3) * 10, w.draw(3), 3 + w.draw(20), 1 + w.draw(2)*w.draw(60), 2 + w.draw(20), make([]int, len(w.nodes))}
	if w.draw(2) == 0 {
		for k := range p.side {
			p.side[k] = w.draw(2)
		}
	}
	return p
}

// run does so many steps.
func (w *world) run(steps int) {
	var p phase
	for step := range steps {
		if step%100 == 0 {
			p = w.phase()
		}
		k := w.draw(len(w.nodes))
		switch d := w.draw(100); {
		case d < p.ticks:
			w.tick(k, p)
		case d < p.ticks+2:
			w.propose(step)
		case d < p.ticks+4:
			w.compact(k)
		case d < p.ticks+4+p.crash && w.draw(4) == 0:
			w.begin(k)
			w.check(k)
		default:
			w.arrive(p)
		}
		if len(w.under) > 300 {
			w.under = append([]api.Message{}, w.under[100:]...) // late beyond all bounds: lost
		}
	}
}

// Ra5: no term has two leaders; what is committed at one index is the same everywhere; a leader has all that was committed in earlier terms.
func TestNothingGoesWrongWhateverIsLostDoubledAndLate(t *testing.T) {
	seen := map[int]int{}
	var leaders, committed, begins, cuts, later int
	for seed := range uint32(1500) {
		w := newWorld(t, seed)
		w.run(3000)
		leaders += len(w.leaders)
		committed += w.top
		begins += w.begins
		cuts += w.cuts
		for kind, n := range w.seen {
			seen[kind] += n
		}
		for i, x := range w.done {
			if w.in[i] > x.Term {
				later++
			}
		}
	}
	// What did not happen was not tested.
	for kind := api.MsgVote; kind <= api.MsgSnap; kind++ {
		if seen[kind] < 1000 {
			t.Errorf("only %d messages of kind %d came", seen[kind], kind)
		}
	}
	if leaders < 10000 || committed < 30000 || begins < 10000 || cuts < 1000 || later < 5000 {
		t.Errorf("%d leaders, %d committed, %d begun, %d cut, %d committed in a later term", leaders, committed, begins, cuts, later)
	}
}

// In a calm time a leader comes, and all have what it appends, whoever lacked it.
func TestACalmTimeLetsAllHaveAll(t *testing.T) {
	for seed := range uint32(100) {
		w := newWorld(t, seed)
		w.run(1500)
		for round := range 400 {
			k := round % len(w.nodes)
			w.did(k, w.nodes[k].Tick(3*k))
			for len(w.under) > 0 {
				m := w.under[0]
				w.under = w.under[1:]
				w.did(m.To, w.nodes[m.To].Receive(m))
			}
			if round == 300 {
				w.propose(round)
			}
		}
		for k, n := range w.nodes {
			if n.Commit() != w.top || w.done[w.top].Data == "" {
				t.Errorf("seed %d: the node %d has %d of %d", seed, k, n.Commit(), w.top)
			}
		}
	}
}
