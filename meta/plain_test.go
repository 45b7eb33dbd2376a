package meta_test

import (
	"fmt"
	"math"
	"reflect"
	"rookery/api"
	"rookery/meta"
	"rookery/model"
	"rookery/slots"
	"testing"
)

// Ops by their kinds.

func moves(space, channel, toSpace, to string) api.Op {
	return api.Op{Kind: api.OpMove, Space: space, Channel: channel, ToSpace: toSpace, To: to}
}

func closes(space string) api.Op { return api.Op{Kind: api.OpClose, Space: space} }

func offs(user string) api.Op { return api.Op{Kind: api.OpOff, User: user} }

// Commands by their kinds.

func begins(session, seq int, o api.Op) api.Command {
	return api.Command{Kind: api.CmdBegin, Id: api.Id{Session: session, Seq: seq}, Op: o}
}

func votes(tx, slot int, e api.Errno) api.Command {
	return api.Command{Kind: api.CmdVoted, Tx: tx, Slot: slot, Err: e}
}

func votesWith(tx, slot int, e api.Errno, data string) api.Command {
	return api.Command{Kind: api.CmdVoted, Tx: tx, Slot: slot, Err: e, Data: data}
}

func ends(tx, slot int) api.Command {
	return api.Command{Kind: api.CmdEnded, Tx: tx, Slot: slot}
}

func plans(slot, group int) api.Command {
	return api.Command{Kind: api.CmdPlan, Slot: slot, Group: group}
}

func freezes(plan int, data string) api.Command {
	return api.Command{Kind: api.CmdFrozen, Plan: plan, Data: data}
}

func takes(plan int) api.Command { return api.Command{Kind: api.CmdTaken, Plan: plan} }

// named is the nth channel of a workspace that is of a slot.
func named(t *testing.T, space string, slot, nth int) string {
	t.Helper()
	for i := range 10000 {
		name := fmt.Sprint("c", i)
		if s, e := slots.Of(space, name); e == api.OK && s == slot {
			if nth == 0 {
				return name
			}
			nth--
		}
	}
	t.Fatalf("no channel %d of the slot %d", nth, slot)
	return ""
}

// moving is a move of a channel of one slot to one of another slot.
func moving(t *testing.T, from, to int) api.Op {
	t.Helper()
	return moves("w", named(t, "w", from, 0), "v", named(t, "v", to, 1))
}

// beyond are numbers far out.
var beyond = []int{math.MinInt, math.MinInt + 1, -1 << 40, -1 << 32, -1 << 31, -2, -1, 1 << 31, 1 << 41, 1<<48 + 1, 1 << 62, math.MaxInt - 1, math.MaxInt}

// draws are numbers that look random, the same ones of each seed.
func draws(seed uint64) func(int) int {
	return func(below int) int {
		seed = seed*6364136223846793005 + 1442695040888963407
		return int((seed >> 33) % uint64(below))
	}
}

type plainNote struct {
	id    api.Id
	reply api.Reply
}

// plainSlot is what a transaction knows of one of its slots.
type plainSlot struct {
	slot         int
	voted, ended bool
	vote         api.Errno
}

type plainTx struct {
	tx      int
	id      api.Id
	op      api.Op
	slots   []plainSlot
	decided bool
	err     api.Errno
	data    string
}

// plain is a machine by the chapter's words: lists that are gone through whenever it is asked.
type plain struct {
	groups int
	owner  [16]int
	epoch  [16]int
	notes  []plainNote
	txs    []*plainTx
	begun  int
	plan   *meta.Plan
	plans  int
}

func plainNew(groups int) *plain {
	p := &plain{groups: groups}
	for s := range 16 {
		p.owner[s], p.epoch[s] = 1+s*groups/16, 1
	}
	return p
}

// known is what a session asked last, if it was answered anything.
func (p *plain) known(session int) *plainNote {
	for i, n := range p.notes {
		if n.id.Session == session {
			return &p.notes[i]
		}
	}
	return nil
}

// apply does a command, and tells whether something is another way now.
func (p *plain) apply(c api.Command) (api.Reply, bool) {
	var r api.Reply
	switch c.Kind {
	case api.CmdNone:
		return r, false
	case api.CmdBegin:
		return p.begin(c)
	case api.CmdVoted:
		r.Err = p.voted(c)
	case api.CmdEnded:
		r.Err = p.ended(c)
	case api.CmdPlan:
		r = p.planned(c)
	case api.CmdFrozen:
		if p.plan == nil || p.plan.Plan != c.Plan || p.plan.Frozen {
			r.Err = api.ErrNone
			break
		}
		p.plan.Frozen, p.plan.Data = true, c.Data
	case api.CmdTaken:
		if p.plan == nil || p.plan.Plan != c.Plan || !p.plan.Frozen {
			r.Err = api.ErrNone
			break
		}
		p.owner[p.plan.Slot] = p.plan.To
		p.epoch[p.plan.Slot]++
		p.plan = nil
	default:
		r.Err = api.ErrArg
	}
	return r, r.Err == api.OK
}

func (p *plain) begin(c api.Command) (api.Reply, bool) {
	const mostNumber = 1<<31 - 1
	if c.Op.Kind < api.OpMove || c.Op.Kind > api.OpOff || model.Check(c.Op) != api.OK {
		return api.Reply{Err: api.ErrArg}, false
	}
	if c.Id.Session < 0 || c.Id.Session > mostNumber || c.Id.Seq < 1 || c.Id.Seq > mostNumber {
		return api.Reply{Err: api.ErrArg}, false
	}
	n := p.known(c.Id.Session)
	if n != nil && n.id.Seq == c.Id.Seq {
		return n.reply, false
	}
	if n != nil && n.id.Seq > c.Id.Seq {
		return api.Reply{Err: api.ErrOld}, false
	}
	count := len(p.notes)
	for _, t := range p.txs {
		if t.id.Session == c.Id.Session && t.id.Seq > c.Id.Seq {
			return api.Reply{Err: api.ErrOld}, false
		}
		if t.id.Session == c.Id.Session {
			return api.Reply{Err: api.ErrBusy}, false
		}
		if p.known(t.id.Session) == nil {
			count++
		}
	}
	if len(p.txs) >= 64 || count >= 64 {
		return api.Reply{Err: api.ErrFull}, false
	}
	p.begun++
	t := &plainTx{tx: p.begun, id: c.Id, op: c.Op}
	for _, s := range slots.Slots(c.Op) {
		t.slots = append(t.slots, plainSlot{slot: s})
	}
	p.txs = append(p.txs, t)
	return api.Reply{Err: api.ErrBusy, At: t.tx}, true
}

// first is the first transaction, if it has that number, and what it knows of a slot of its.
func (p *plain) first(c api.Command) (*plainTx, *plainSlot) {
	if len(p.txs) == 0 || p.txs[0].tx != c.Tx {
		return nil, nil
	}
	for i, s := range p.txs[0].slots {
		if s.slot == c.Slot {
			return p.txs[0], &p.txs[0].slots[i]
		}
	}
	return nil, nil
}

func (p *plain) voted(c api.Command) api.Errno {
	t, s := p.first(c)
	if t == nil || t.decided || s.voted {
		return api.ErrNone
	}
	s.voted, s.vote = true, c.Err
	if c.Data != "" {
		t.data = c.Data
	}
	from := -1
	if t.op.Kind == api.OpMove {
		from, _ = slots.Of(t.op.Space, t.op.Channel)
	}
	var first, moved api.Errno
	for _, s := range t.slots {
		if !s.voted {
			return api.OK
		}
		if first == api.OK {
			first = s.vote
		}
		if s.slot == from {
			moved = s.vote
		}
	}
	t.decided, t.err = true, first
	if moved != api.OK {
		t.err = moved
	}
	return api.OK
}

func (p *plain) ended(c api.Command) api.Errno {
	t, s := p.first(c)
	if t == nil || !t.decided || s.ended {
		return api.ErrNone
	}
	s.ended = true
	for _, s := range t.slots {
		if !s.ended {
			return api.OK
		}
	}
	if n := p.known(t.id.Session); n != nil {
		*n = plainNote{t.id, api.Reply{Err: t.err}}
	} else {
		p.notes = append(p.notes, plainNote{t.id, api.Reply{Err: t.err}})
	}
	p.txs = p.txs[1:]
	return api.OK
}

func (p *plain) planned(c api.Command) api.Reply {
	switch {
	case c.Slot < 0 || c.Slot > 15 || c.Group < 1 || c.Group > p.groups:
		return api.Reply{Err: api.ErrArg}
	case p.plan != nil:
		return api.Reply{Err: api.ErrBusy}
	case p.owner[c.Slot] == c.Group:
		return api.Reply{Err: api.ErrThere}
	}
	p.plans++
	p.plan = &meta.Plan{Plan: p.plans, Slot: c.Slot, From: p.owner[c.Slot], To: c.Group, Epoch: p.epoch[c.Slot]}
	return api.Reply{At: p.plans}
}

func (p *plain) todo() (meta.Todo, bool) {
	if len(p.txs) == 0 {
		return meta.Todo{}, false
	}
	t := p.txs[0]
	d := meta.Todo{Tx: t.tx, Id: t.id, Op: t.op, Decided: t.decided, Ok: t.decided && t.err == api.OK, Data: t.data}
	for _, s := range t.slots {
		if t.decided && !s.ended || !s.voted {
			d.Slots = append(d.Slots, s.slot)
		}
	}
	return d, true
}

// both are a machine, and the plain one that does the same.
type both struct {
	*testing.T
	m *meta.Machine
	p *plain
}

func made(t *testing.T, groups int) *both {
	t.Helper()
	m, e := meta.New(groups)
	if m == nil || e != api.OK {
		t.Fatalf("New(%d): %v, %d", groups, m, e)
	}
	b := &both{t, m, plainNew(groups)}
	b.same(m)
	return b
}

// bytes are those of a machine.
func bytes(t *testing.T, m *meta.Machine) string {
	t.Helper()
	s, e := m.Bytes()
	if s == "" || e != api.OK {
		t.Fatalf("Bytes: %q, %d", s, e)
	}
	return s
}

// back is the machine of a machine's bytes.
func back(t *testing.T, m *meta.Machine) *meta.Machine {
	t.Helper()
	s := bytes(t, m)
	n, e := meta.From(s)
	if n == nil || e != api.OK {
		t.Fatalf("From(%q): %v, %d", s, n, e)
	}
	if again := bytes(t, n); again != s {
		t.Errorf("From(%q), Bytes: %q", s, again)
	}
	return n
}

// same asks that a machine tells what the plain one does.
func (b *both) same(m *meta.Machine) {
	b.Helper()
	for s := range 16 {
		if group, epoch, e := m.Owner(s); group != b.p.owner[s] || epoch != b.p.epoch[s] || e != api.OK {
			b.Fatalf("Owner(%d): %d, %d, %d; not %d, %d", s, group, epoch, e, b.p.owner[s], b.p.epoch[s])
		}
	}
	want, there := b.p.todo()
	if d, ok := m.Todo(); ok != there || !reflect.DeepEqual(d, want) {
		b.Fatalf("Todo: %+v, %t; not %+v, %t", d, ok, want, there)
	}
	plan := meta.Plan{}
	if b.p.plan != nil {
		plan = *b.p.plan
	}
	if p, ok := m.Plan(); ok != (b.p.plan != nil) || p != plan {
		b.Fatalf("Plan: %+v, %t; not %+v", p, ok, plan)
	}
	if n := m.Waiting(); n != len(b.p.txs) {
		b.Fatalf("Waiting: %d, not %d", n, len(b.p.txs))
	}
}

// apply lets all do a command: the machine, one that is made of its bytes ahead of it, and the plain one. What is refused must have changed nothing.
func (b *both) apply(c api.Command) api.Reply {
	b.Helper()
	was := bytes(b.T, b.m)
	other := back(b.T, b.m)
	want, changed := b.p.apply(c)
	r, also := b.m.Apply(c), other.Apply(c)
	if !reflect.DeepEqual(r, want) || !reflect.DeepEqual(also, want) {
		b.Fatalf("Apply(%+v): %+v, the machine of its bytes: %+v; not %+v", c, r, also, want)
	}
	b.same(b.m)
	b.same(other)
	s := bytes(b.T, b.m)
	if s != bytes(b.T, other) {
		b.Fatalf("behind Apply(%+v) the machine of the bytes has other bytes", c)
	}
	if changed == (s == was) {
		b.Fatalf("Apply(%+v): changed: %t; Bytes: %q, then %q", c, changed, was, s)
	}
	return r
}

// err asks that a command is answered by an error, or OK, alone.
func (b *both) err(want api.Errno, c api.Command) {
	b.Helper()
	if r := b.apply(c); !reflect.DeepEqual(r, api.Reply{Err: want}) {
		b.Fatalf("Apply(%+v): %+v, not %d", c, r, want)
	}
}

// at asks that a command is answered by an error, or OK, and a number.
func (b *both) at(want api.Errno, at int, c api.Command) {
	b.Helper()
	if r := b.apply(c); !reflect.DeepEqual(r, api.Reply{Err: want, At: at}) {
		b.Fatalf("Apply(%+v): %+v, not %d, %d", c, r, want, at)
	}
}

// todo asks what the first transaction waits for.
func (b *both) todo(tx int, decided, ok bool, data string, open ...int) {
	b.Helper()
	d, there := b.m.Todo()
	if !there || d.Tx != tx || d.Decided != decided || d.Ok != ok || d.Data != data || !reflect.DeepEqual(d.Slots, open) {
		b.Fatalf("Todo: %+v, %t; not %d, %t, %t, %q, %v", d, there, tx, decided, ok, data, open)
	}
}

// decide lets all slots of the first transaction that did not vote yet vote, all alike.
func (b *both) decide(e api.Errno) {
	b.Helper()
	d, _ := b.m.Todo()
	if d.Decided {
		return
	}
	for _, s := range d.Slots {
		b.err(api.OK, votes(d.Tx, s, e))
	}
}

// finish lets all slots of the first transaction, which is decided, end, those that did not yet.
func (b *both) finish() {
	b.Helper()
	d, _ := b.m.Todo()
	for _, s := range d.Slots {
		b.err(api.OK, ends(d.Tx, s))
	}
}

// whole lets a transaction begin, which is the first one, and be answered.
func (b *both) whole(session, seq int, o api.Op, e api.Errno) {
	b.Helper()
	b.at(api.ErrBusy, b.p.begun+1, begins(session, seq, o))
	b.decide(e)
	b.finish()
}
