package meta_test

import (
	"rookery/api"
	"rookery/meta"
	"slices"
	"testing"
)

// world is a machine, and what was told of it: by that alone the chapter's section 'What follows' is asked.
type world struct {
	*both
	draw     func(int) int
	begun    []began
	answered int // how many of these
	owners   [16]owner
}

// began is a transaction: what it was asked by, and how its slots voted.
type began struct {
	id    api.Id
	op    api.Op
	votes []api.Errno
}

// owner is a group that has a slot, and the slot's epoch.
type owner struct{ group, epoch int }

func (w *world) slot() int { return w.draw(18) - 1 }

// op is one of several slots, or, seldom, another one.
func (w *world) op() api.Op {
	switch w.draw(12) {
	case 0:
		return api.Op{Kind: api.OpJoin, Space: "w", Channel: "c", User: "ann"}
	case 1:
		return closes("W")
	case 2:
		return closes("w")
	case 3:
		return offs("ann")
	}
	names := []string{"c0", "c1", "c2", "c3"}
	return moves("w", names[w.draw(4)], "v", names[w.draw(4)])
}

func (w *world) err() api.Errno {
	return []api.Errno{api.OK, api.OK, api.OK, api.ErrNone, api.ErrThere, api.ErrOff, -3, 1 << 45}[w.draw(8)]
}

// open is a slot that the first transaction waits for, and its number, or, seldom, others.
func (w *world) open() (tx, slot int) {
	d, ok := w.m.Todo()
	if !ok || w.draw(8) == 0 {
		return d.Tx + w.draw(3) - 1, w.slot()
	}
	return d.Tx, d.Slots[w.draw(len(d.Slots))]
}

// command is any of the kinds, mostly one that may be now.
func (w *world) command() api.Command {
	p, _ := w.m.Plan()
	tx, slot := w.open()
	switch w.draw(20) {
	case 0, 1, 2:
		return begins(w.draw(7)-1, w.draw(2+len(w.begun)/3), w.op())
	case 3, 4, 5, 6, 7, 8:
		return votesWith(tx, slot, w.err(), []string{"", "", "x", "y"}[w.draw(4)])
	case 9, 10, 11, 12, 13, 14:
		return ends(tx, slot)
	case 15:
		return plans(w.slot(), w.draw(5))
	case 16, 17:
		return freezes(p.Plan+w.draw(3)/2, []string{"", "z"}[w.draw(2)])
	case 18:
		return takes(p.Plan + w.draw(3)/2)
	}
	return full(w.draw(14) - 1)
}

// step does a command, and takes note of what began, was voted and was answered.
func (w *world) step(c api.Command) {
	w.Helper()
	plan, _ := w.m.Plan()
	r := w.apply(c)
	switch {
	case c.Kind == api.CmdBegin && r.At != 0:
		w.begun = append(w.begun, began{id: c.Id, op: c.Op})
		if r.At != len(w.begun) || r.Err != api.ErrBusy {
			w.Fatalf("Apply(%+v): %+v, not %d", c, r, len(w.begun))
		}
	case c.Kind == api.CmdVoted && r.Err == api.OK:
		w.begun[w.answered].votes = append(w.begun[w.answered].votes, c.Err)
	}
	if w.m.Waiting() < len(w.begun)-w.answered {
		w.isAnswered()
	}
	if w.m.Waiting() != len(w.begun)-w.answered {
		w.Fatalf("Waiting: %d; %d began, %d were answered", w.m.Waiting(), len(w.begun), w.answered)
	}
	w.haveOwners(c, r, plan)
}

// isAnswered is Me3: it is the next one that is answered, and no other one, by one of its slots' votes, or none.
func (w *world) isAnswered() {
	w.Helper()
	b := w.begun[w.answered]
	r := w.m.Apply(begins(b.id.Session, b.id.Seq, b.op))
	refused := slices.DeleteFunc(slices.Clone(b.votes), func(e api.Errno) bool { return e == api.OK })
	if r.At != 0 || len(refused) == 0 && r.Err != api.OK || len(refused) > 0 && !slices.Contains(refused, r.Err) {
		w.Fatalf("%+v: %+v, of the votes %v", b.id, r, b.votes)
	}
	w.answered++
	for _, b := range w.begun[w.answered:] {
		if r := w.m.Apply(begins(b.id.Session, b.id.Seq, b.op)); r.Err != api.ErrBusy || r.At != 0 {
			w.Fatalf("%+v waits: %+v", b.id, r)
		}
	}
}

// haveOwners is Me4: each slot has one owner, and another one behind the end of a plan alone.
func (w *world) haveOwners(c api.Command, r api.Reply, plan meta.Plan) {
	w.Helper()
	for slot := range 16 {
		group, epoch, e := w.m.Owner(slot)
		now, was := owner{group, epoch}, w.owners[slot]
		want := was
		if c.Kind == api.CmdTaken && r.Err == api.OK && slot == plan.Slot {
			if !plan.Frozen || plan.From != was.group || plan.Epoch != was.epoch || c.Plan != plan.Plan {
				w.Fatalf("Apply(%+v): %+v, behind %+v", c, r, plan)
			}
			want = owner{plan.To, was.epoch + 1}
		}
		if e != api.OK || was.group != 0 && now != want || group < 1 || group > w.p.groups {
			w.Fatalf("Apply(%+v): %+v, Owner(%d): %v, %d, not %v", c, r, slot, now, e, want)
		}
		w.owners[slot] = now
	}
}

// TestAnyCommands: of any machine, as the plain one does them, in any order; and Me3 and Me4.
func TestAnyCommands(t *testing.T) {
	t.Parallel()
	answered, taken := 0, 0
	for seed := range uint64(60) {
		w := &world{both: made(t, 1+int(seed)%4), draw: draws(seed)}
		for range 500 {
			w.step(w.command())
		}
		answered += w.answered
		taken += w.p.plans
	}
	if answered < 400 || taken < 150 {
		t.Errorf("%d transactions were answered, %d plans were there", answered, taken)
	}
}
