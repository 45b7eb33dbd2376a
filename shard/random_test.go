package shard_test

import (
	"fmt"
	"rookery/api"
	"rookery/model"
	"rookery/shard"
	"rookery/slots"
	"slices"
	"strconv"
	"testing"
)

var (
	spaces = []string{"w", "v"}
	users  = []string{"ann", "bob", "eve"}
)

// world is groups of machines, and what was told as Data.
type world struct {
	*testing.T
	draw   func(int) int
	groups []*both
	told   map[string]any
	tx     int
}

// channel is one of few, of few slots, so that much is done in each.
func (w *world) channel(space string) string {
	return named(w.T, space, []int{0, 3, 9}[w.draw(3)], w.draw(2))
}

func (w *world) space() string { return spaces[w.draw(2)] }
func (w *world) user() string  { return users[w.draw(3)] }

// one is an op of one channel.
func (w *world) one() api.Op {
	space := w.space()
	c := w.channel(space)
	switch w.draw(6) {
	case 0:
		return makes(space, c)
	case 1, 2:
		return joins(space, c, w.user())
	case 3, 4:
		return posts(space, c, w.user(), "text "+strconv.Itoa(w.draw(1000)))
	}
	return reads(space, c, w.draw(3), w.draw(65))
}

// many is an op of several slots.
func (w *world) many() api.Op {
	switch w.draw(5) {
	case 0:
		return closes(w.space())
	case 1:
		return offs(w.user())
	}
	from, to := w.space(), w.space()
	return moves(from, w.channel(from), to, w.channel(to))
}

// data is something that was told once, or nothing, or spoilt.
func (w *world) data() string {
	var list []string
	for s := range w.told {
		list = append(list, s)
	}
	slices.Sort(list)
	if len(list) == 0 || w.draw(8) == 0 {
		return []string{"", "spoilt"}[w.draw(2)]
	}
	return list[w.draw(len(list))]
}

// slot is one that an op is about, or, seldom, another one.
func (w *world) slot(o api.Op) int {
	about := slots.Slots(o)
	if w.draw(20) == 0 || len(about) == 0 {
		return w.draw(18) - 1
	}
	if len(about) == 16 {
		return []int{0, 3, 9}[w.draw(3)]
	}
	return about[w.draw(len(about))]
}

// command is any of the kinds, of few numbers.
func (w *world) command(b *both) api.Command {
	o := w.many()
	slot := []int{0, 3, 9}[w.draw(3)]
	epoch := b.p.slots[slot].epoch
	switch w.draw(20) {
	case 0, 1, 2:
		return locks(w.draw(w.tx)-1, w.slot(o), o)
	case 3, 4, 5, 6:
		return finishes(w.draw(w.tx)-1, w.slot(o), o, w.draw(4) > 0, w.data())
	case 7:
		return freezes(w.draw(3), slot, epoch+w.draw(3)-1)
	case 8:
		return takes(w.draw(3), slot, epoch+w.draw(3), w.data())
	}
	o = w.one()
	return ops(w.draw(6), w.draw(30), w.slot(o), o)
}

// TestAnyCommands: of any machine, as the plain one does them, in any order.
func TestAnyCommands(t *testing.T) {
	t.Parallel()
	for seed := range uint64(50) {
		told := map[string]any{}
		w := &world{T: t, draw: draws(seed), told: told, tx: 40}
		w.groups = []*both{also(t, 1, 1, told), also(t, 2, 2, told)}
		for i := range 300 {
			b := w.groups[w.draw(2)]
			b.apply(w.command(b))
			if i%100 == 99 {
				b.look(0, users...)
				b.look(3, users...)
				b.look(9, users...)
			}
		}
		if t.Failed() {
			t.Fatalf("seed %d", seed)
		}
	}
}

// TestAskedAgainBehindMoves is Sh3: whatever a session asked last at a slot, it is answered so again, and nothing is done, wherever the slot went.
func TestAskedAgainBehindMoves(t *testing.T) {
	t.Parallel()
	for seed := range uint64(10) {
		told := map[string]any{}
		w := &world{T: t, draw: draws(seed), told: told}
		w.groups = []*both{also(t, 1, 1, told), also(t, 2, 1, told)}
		last := map[[2]int]api.Command{} // by slot and session
		answers := map[[2]int]api.Reply{}
		at := map[int]int{0: 0, 3: 0, 9: 0} // the group that has the slot
		for i := range 200 {
			o := w.one()
			slot := slots.Slots(o)[0]
			key := [2]int{slot, w.draw(4)}
			c := ops(key[1], 1+i, slot, o)
			last[key], answers[key] = c, w.groups[at[slot]].apply(c).Reply
			if w.draw(5) == 0 {
				epoch := w.groups[at[slot]].p.slots[slot].epoch
				data := w.groups[at[slot]].data(freezes(1+i, slot, epoch))
				at[slot] = 1 - at[slot]
				w.groups[at[slot]].err(api.OK, takes(1+i, slot, epoch+1, data))
			}
			for key, c := range last {
				b := w.groups[at[key[0]]]
				was := bytes(t, b.m)
				if r := b.m.Apply(c).Reply; !sameReply(r, answers[key]) {
					t.Errorf("seed %d: %+v is answered %v, not %v", seed, c, r, answers[key])
				}
				if bytes(t, b.m) != was {
					t.Errorf("seed %d: %+v is done again", seed, c)
				}
			}
		}
		for slot, group := range at {
			w.groups[group].look(slot, users...)
		}
	}
}

// touched is what a hold stands in the way of, as it is now in a slot. It is told by ops of a copy of the machine, in which the hold is ended.
func touched(t *testing.T, m *shard.Machine, tx, slot int, h api.Op) string {
	t.Helper()
	m = from(t, bytes(t, m))
	m.Apply(finishes(tx, slot, h, false, ""))
	seq := 1 << 30
	ask := func(o api.Op) api.Reply {
		seq++
		return m.Apply(ops(1, seq, slot, o)).Reply
	}
	told := ""
	for _, space := range spaces {
		for _, c := range m.Channels(space) {
			isMoved := h.Kind == api.OpMove && (space == h.Space && c == h.Channel || space == h.ToSpace && c == h.To)
			switch {
			case !isOf(space, c, slot):
			case h.Kind == api.OpOff:
				told += ofUser(space, c, h.User, ask)
			case isMoved, h.Kind == api.OpClose && space == h.Space:
				told += fmt.Sprint(space, c, ask(reads(space, c, 0, 64)), ask(reads(space, c, 64, 64)))
				for _, user := range users {
					told += fmt.Sprint(ask(posts(space, c, user, "hi")), ask(joins(space, c, user)))
				}
			}
		}
	}
	return told
}

// ofUser is whether a user is a channel's member, and posted there; nothing, if both are not so.
func ofUser(space, c, user string, ask func(api.Op) api.Reply) (told string) {
	for _, p := range slices.Concat(ask(reads(space, c, 0, 64)).Posts, ask(reads(space, c, 64, 64)).Posts) {
		if p.User == user {
			told += fmt.Sprint(space, c, p)
		}
	}
	if e := ask(posts(space, c, user, "hi")).Err; e != api.ErrMember {
		told += fmt.Sprint(space, c, e)
	}
	return told
}

// TestNothingChangesBehindALock is Sh4: till the end of what holds, whatever else is asked, locked, frozen, and ended.
func TestNothingChangesBehindALock(t *testing.T) {
	t.Parallel()
	const tx = 1000
	kinds := map[int]int{}
	for seed := range uint64(40) {
		told := map[string]any{}
		w := &world{T: t, draw: draws(seed), told: told, tx: 40}
		b := also(t, 1, 1, told)
		for i := range 80 {
			o := w.one()
			b.apply(ops(2, 1+i, slots.Slots(o)[0], o))
		}
		h := w.many()
		slot := []int{0, 3, 9}[w.draw(3)]
		if !slices.Contains(slots.Slots(h), slot) {
			slot = slots.Slots(h)[0]
		}
		first := b.apply(locks(tx, slot, h))
		was := touched(t, b.m, tx, slot, h)
		if was != "" {
			kinds[h.Kind]++
		}
		for range 80 {
			c := w.command(b)
			if c.Slot == slot && (c.Kind == api.CmdTake || c.Kind == api.CmdFinish && c.Ok) {
				continue // what is here isn't taken, and what doesn't hold isn't ended with Ok
			}
			b.apply(c)
			if now := touched(t, b.m, tx, slot, h); now != was {
				t.Fatalf("seed %d: %+v changed %s to %s, behind a lock of %+v", seed, c, was, now, h)
			}
		}
		again := b.apply(locks(tx, slot, h))
		if !sameReply(again.Reply, first.Reply) || again.Data != first.Data || b.m.Holds(slot) != 1 {
			t.Errorf("seed %d: the vote is told again as %v, not %v", seed, again, first)
		}
	}
	if len(kinds) != 3 {
		t.Errorf("something stood in the way by the kinds %v alone", kinds)
	}
}

// driver is what the meta group and the nodes do: it asks the group that has a slot, and lets transactions go one behind the other.
type driver struct {
	*world
	at    [16]int // the group that has the slot
	epoch [16]int
	truth *model.Model
}

func (d *driver) apply(c api.Command) (api.Reply, string) {
	r := d.groups[d.at[c.Slot]].m.Apply(c)
	return r.Reply, r.Data
}

// move lets a slot go to the other group, if it is not held.
func (d *driver) move(slot, plan int) {
	r, data := d.apply(freezes(plan, slot, d.epoch[slot]))
	if r.Err != api.OK {
		return
	}
	d.at[slot] = 1 - d.at[slot]
	d.epoch[slot]++
	if r, _ := d.apply(takes(plan, slot, d.epoch[slot], data)); r.Err != api.OK {
		d.Errorf("a take of the slot %d: %v", slot, r)
	}
}

// ask asks an op of one channel, as often as need be: unless it is busy, it is answered as the model does.
func (d *driver) ask(seq int) {
	o := d.one()
	c := ops(1, seq, slots.Slots(o)[0], o)
	r, _ := d.apply(c)
	if r.Err == api.ErrBusy {
		return
	}
	if want := d.truth.Do(o); !sameReply(r, want) {
		d.Errorf("%+v is answered %v, not %v", o, r, want)
	}
	if again, _ := d.apply(c); !sameReply(r, again) {
		d.Errorf("%+v is answered %v again, not %v", o, again, r)
	}
}

// TestAsTheModelDoes is what it is all for: ops, transactions and slots on their way among one another are as if one thing was done behind the other.
func TestAsTheModelDoes(t *testing.T) {
	t.Parallel()
	for seed := range uint64(25) {
		w := &world{T: t, draw: draws(seed), told: map[string]any{}}
		w.groups = []*both{also(t, 1, 1, w.told), also(t, 2, 1, w.told)}
		d := &driver{world: w, truth: model.New()}
		for slot := range 16 {
			d.epoch[slot] = 1
		}
		seq := 0
		between := func() {
			for range d.draw(12) {
				seq++
				d.ask(seq)
			}
			if d.draw(3) == 0 {
				d.move([]int{0, 3, 9}[d.draw(3)], seq+1)
			}
		}
		for tx := 1; tx < 30; tx++ {
			between()
			d.transact(tx, between)
			for _, space := range spaces {
				d.sameAsTruth(space)
			}
		}
		if t.Failed() {
			t.Fatalf("seed %d", seed)
		}
	}
}

// transact does a transaction whole; its point is where all voted.
func (d *driver) transact(tx int, between func()) {
	o := d.many()
	about := slots.Slots(o)
	votes, data := map[int]api.Errno{}, ""
	for _, slot := range about {
		r, told := d.apply(locks(tx, slot, o))
		if d.draw(3) == 0 {
			r, told = d.apply(locks(tx, slot, o))
		}
		votes[slot] = r.Err
		if told != "" {
			data = told
		}
		between()
	}
	e := d.decide(o, about, votes)
	if want := d.truth.Do(o).Err; e != want {
		d.Errorf("%+v is answered %d, not %d", o, e, want)
	}
	for _, slot := range about {
		for range 1 + d.draw(2) {
			if r, _ := d.apply(finishes(tx, slot, o, e == api.OK, data)); r.Err != api.OK {
				d.Errorf("%+v ends with %v", o, r)
			}
		}
		between()
	}
}

// decide is a transaction's error: the vote of the slot of the channel that it moves, or of the first slot that refused.
func (d *driver) decide(o api.Op, about []int, votes map[int]api.Errno) api.Errno {
	if o.Kind == api.OpMove {
		from, _ := slots.Of(o.Space, o.Channel)
		if votes[from] != api.OK {
			return votes[from]
		}
	}
	for _, slot := range about {
		if votes[slot] != api.OK {
			return votes[slot]
		}
	}
	return api.OK
}

// sameAsTruth asks what a workspace is: its channels, their posts and members, of copies of the machines.
func (d *driver) sameAsTruth(space string) {
	truth := d.truth.Copy()
	var list []string
	for slot := range 16 {
		for _, c := range d.groups[d.at[slot]].m.Channels(space) {
			if isOf(space, c, slot) {
				list = append(list, c)
			}
		}
	}
	slices.Sort(list)
	if want := truth.Channels(space); !slices.Equal(list, want) {
		d.Errorf("the channels of %q are %q, not %q", space, list, want)
	}
	for _, c := range list {
		slot, _ := slots.Of(space, c)
		m := from(d.T, bytes(d.T, d.groups[d.at[slot]].m))
		asked := []api.Op{reads(space, c, 0, 64), reads(space, c, 64, 64)}
		for _, user := range users {
			asked = append(asked, posts(space, c, user, "hi"), joins(space, c, user))
		}
		for i, o := range asked {
			got, want := m.Apply(ops(1, 1<<30+i, slot, o)).Reply, truth.Do(o)
			if !sameReply(got, want) {
				d.Errorf("%+v is answered %v, not %v", o, got, want)
			}
		}
	}
}
