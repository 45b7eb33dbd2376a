package group_test

import (
	"fmt"
	"maps"
	"rookery/api"
	"rookery/group"
	"rookery/slots"
	"slices"
	"testing"
)

// world is parts of one group on different nodes, whose letters are lost, doubled and late, and that begin anew as they were saved. Beside each of them is a plain one.
type world struct {
	*testing.T
	of       int
	channels []string // of group 1, but for one
	draw     func(int) int
	parts    []*both
	under    []api.Message
	applied  map[int]group.Applied // what was done at which index, whoever did it first
	states   map[int]string        // by what is done
	saved    []api.Saved           // how each part was saved when it was looked at
	told     []string              // Data that was told, for commands that want some
	seen     map[int]int           // how often a kind of letter came
	again    int                   // how often something was told another time
	based    int                   // how often a base came
	begun    int
}

// newWorld is one whose nodes' logs have the same entries ahead, some of which are no commands.
func newWorld(t *testing.T, of, nodes int, seed uint64) *world {
	w := &world{T: t, of: of, draw: draws(seed), applied: map[int]group.Applied{}, states: map[int]string{}, seen: map[int]int{}}
	for name := 'a'; len(w.channels) < 4; name++ {
		if slot, _ := slots.Of("w", string(name)); slot < 8 || len(w.channels) == 3 {
			w.channels = append(w.channels, string(name))
		}
	}
	s := api.Saved{Term: 1, Vote: -1}
	for _, data := range []string{"none", "", put(t, w.command()), put(t, w.command()) + "x"}[w.draw(5):] {
		s.Entries = append(s.Entries, api.Entry{Term: 1, Data: data})
	}
	w.states[0] = bytesOf(t, of, 2)
	for k := range nodes {
		w.parts = append(w.parts, made(t, of, 2, k, nodes, s, w.draw(40)))
	}
	w.saved = make([]api.Saved, nodes)
	return w
}

// op is any op, mostly one that may be in the group.
func (w *world) op() api.Op {
	c := w.channels[w.draw(len(w.channels))]
	user := []string{"ann", "bob"}[w.draw(2)]
	switch w.draw(9) {
	case 0, 1:
		return makes(c)
	case 2, 3:
		return joins(c, user)
	case 4, 5:
		return posts(c, user, fmt.Sprint("text ", w.draw(1000)))
	case 6:
		return reads(c)
	case 7:
		return closes([]string{"w", "v"}[w.draw(2)])
	}
	return offs(user)
}

// data is some that was told, or none such.
func (w *world) data() string {
	if len(w.told) == 0 || w.draw(4) == 0 {
		return []string{"", "none"}[w.draw(2)]
	}
	return w.told[w.draw(len(w.told))]
}

// command is any one, mostly one of the group's.
func (w *world) command() api.Command {
	o := w.op()
	if w.of > 0 && o.Kind != api.OpClose && o.Kind != api.OpOff && w.draw(10) > 0 {
		return does(1+w.draw(5), 1+w.draw(30), o)
	}
	return api.Command{
		Kind: w.draw(13), Id: api.Id{Session: 1 + w.draw(3), Seq: 1 + w.draw(9)}, Op: o, Tx: 1 + w.draw(4), Plan: 1 + w.draw(3),
		Slot: w.draw(8), Epoch: 1 + w.draw(3), Group: 1 + w.draw(2), Ok: w.draw(2) == 0, Data: w.data(),
	}
}

// commands are one, or those by which a transaction of the meta group goes on.
func (w *world) commands() []api.Command {
	w.Helper()
	if w.of > 0 || w.draw(2) > 0 {
		return []api.Command{w.command()}
	}
	state, _ := w.parts[w.draw(len(w.parts))].g.State()
	m, _ := from(0, state)
	todo, ok := m.head.Todo()
	if !ok {
		return []api.Command{begins(1+w.draw(3), 1+w.draw(40), []api.Op{closes("w"), offs("ann")}[w.draw(2)])}
	}
	kind := api.CmdVoted
	if todo.Decided {
		kind = api.CmdEnded
	}
	var list []api.Command
	for _, slot := range todo.Slots {
		list = append(list, api.Command{Kind: kind, Tx: todo.Tx, Slot: slot, Err: []api.Errno{api.OK, api.ErrNone}[w.draw(20)/19]})
	}
	return list
}

// did takes note of what a part sends and did: all do the same at the same indexes, one behind the other.
func (w *world) did(k int, out []api.Message, list []group.Applied) {
	w.Helper()
	w.under = append(w.under, out...)
	done := w.parts[k].g.Done()
	for i, x := range list {
		if x.Index != done-len(list)+1+i {
			w.Fatalf("%d is done, of %d up to %d", x.Index, len(list), done)
		}
		if old, ok := w.applied[x.Index]; !ok {
			w.applied[x.Index] = x
		} else if w.again++; !sameApplied([]group.Applied{old}, []group.Applied{x}) {
			w.Fatalf("at %d: %+v, and %+v", x.Index, old, x)
		}
		if x.Data != "" {
			w.told = append(w.told, x.Data)
		}
	}
	w.isSame(k)
}

// isSame asks that those who did the same are the same, also if they begin anew as they were saved.
func (w *world) isSame(k int) {
	w.Helper()
	g := w.parts[k].g
	state, _ := g.State()
	if old, ok := w.states[g.Done()]; ok && old != state {
		w.Fatalf("behind %d: %q, and %q", g.Done(), old, state)
	}
	w.states[g.Done()] = state
	s := g.Saved()
	if sameSaved(s, w.saved[k]) {
		return
	}
	w.saved[k] = s
	other, e := group.New(w.of, 2, k, len(w.parts), s, 0)
	need(w.T, "New", e, api.OK)
	if state, _ = other.State(); other.Done() != s.Base || state != w.states[s.Base] || !sameSaved(other.Saved(), s) {
		w.Fatalf("begun anew from %d: %d, %q, not %q", s.Base, other.Done(), state, w.states[s.Base])
	}
}

// arrive lets some letter under way arrive, be lost, or be there twice.
func (w *world) arrive(p phase) {
	w.Helper()
	if len(w.under) == 0 {
		return
	}
	i := w.draw(min(len(w.under), p.late))
	m := w.under[i]
	if w.draw(100) >= p.twice {
		w.under = slices.Delete(w.under, i, i+1)
	}
	if w.draw(100) < p.lost || p.side[m.From] != p.side[m.To] {
		return
	}
	w.seen[m.Kind]++
	done := w.parts[m.To].g.Done()
	out, list := w.parts[m.To].receive(m)
	if len(list) == 0 && w.parts[m.To].g.Done() > done {
		w.based++
	}
	w.did(m.To, out, list)
}

// tick lets a clock tick till its part stands, or once.
func (w *world) tick(k int) {
	times := 1
	if w.draw(20) == 0 {
		times = 20
	}
	for range times {
		out, list := w.parts[k].tick(w.draw(40) - 2)
		w.did(k, out, list)
	}
}

// propose lets all that lead, or believe so, append something.
func (w *world) propose() {
	w.Helper()
	for _, c := range w.commands() {
		for k, b := range w.parts {
			leads := b.g.Leads()
			_, out, list, e := b.propose(c)
			if leads != (e == api.OK) || !leads && e != api.ErrLead {
				w.Fatalf("Propose: %d", e)
			}
			w.did(k, out, list)
		}
	}
}

// phase is how wild a time is, and who does not hear whom in it.
type phase struct {
	lost, twice, late int
	side              [api.MaxNodes]int
}

func (w *world) phase() phase {
	p := phase{lost: w.draw(4) * 10, twice: w.draw(3) * 10, late: 1 + w.draw(2)*w.draw(40)}
	if w.draw(2) == 0 {
		p.side[w.draw(len(w.parts))] = 1
	}
	return p
}

// run does so many steps.
func (w *world) run(steps int) {
	w.Helper()
	var p phase
	for step := range steps {
		if step%100 == 0 {
			p = w.phase()
		}
		k := w.draw(len(w.parts))
		switch d := w.draw(100); {
		case d < 8:
			w.tick(k)
		case d < 20:
			w.propose()
		case d < 25:
			w.parts[k].compact(w.draw(8))
			w.isSame(k)
		case d < 26:
			w.parts[k].records()
			w.parts[k] = w.parts[k].begin(k, len(w.parts), w.draw(40))
			w.begun++
		case d < 29:
			w.parts[k].records()
		default:
			w.arrive(p)
		}
		if len(w.under) > 100 {
			w.under = slices.Clone(w.under[50:]) // late beyond all bounds: lost
		}
	}
}

// calm lets all letters arrive, one behind the other: then all have done the same.
func (w *world) calm() {
	w.Helper()
	for round := range 300 {
		k := round % len(w.parts)
		out, list := w.parts[k].tick(3 * k)
		w.did(k, out, list)
		for len(w.under) > 0 {
			w.arrive(phase{late: 1})
		}
	}
	done := slices.Max(slices.Collect(maps.Keys(w.states)))
	for k, b := range w.parts {
		if b.g.Done() != done {
			w.Errorf("the part %d did %d, not %d", k, b.g.Done(), done)
		}
	}
}

// TestPartsDoTheSame is Gr2.
func TestPartsDoTheSame(t *testing.T) {
	for of := range 3 {
		t.Run(fmt.Sprint("the group ", of), func(t *testing.T) {
			t.Parallel()
			seen := map[int]int{}
			done, again, based, begun := 0, 0, 0, 0
			for seed := range uint64(30) {
				w := newWorld(t, of, []int{1, 2, 3, 3, 3, 4, 5, 5, 5, 7}[seed%10], 100*seed)
				w.run(1000)
				w.calm()
				done += len(w.applied)
				again += w.again
				based += w.based
				begun += w.begun
				for kind, n := range w.seen {
					seen[kind] += n
				}
			}
			// What did not happen was not tested.
			if done < 900 || again < 2500 || based < 15 || begun < 180 || seen[api.MsgSnap] < 150 || seen[api.MsgVoted] < 250 {
				t.Errorf("%d done, %d done again, %d bases, %d begun, letters %v", done, again, based, begun, seen)
			}
		})
	}
}
