package group_test

import (
	"reflect"
	"rookery/api"
	"rookery/command"
	"rookery/group"
	"rookery/meta"
	"rookery/raft"
	"rookery/shard"
	"rookery/slots"
	"testing"
)

// Ops and commands by their kinds.

func makes(channel string) api.Op {
	return api.Op{Kind: api.OpMake, Space: "w", Channel: channel}
}

func joins(channel, user string) api.Op {
	return api.Op{Kind: api.OpJoin, Space: "w", Channel: channel, User: user}
}

func posts(channel, user, text string) api.Op {
	return api.Op{Kind: api.OpPost, Space: "w", Channel: channel, User: user, Text: text}
}

func reads(channel string) api.Op {
	return api.Op{Kind: api.OpRead, Space: "w", Channel: channel, Most: 64}
}

func closes(space string) api.Op { return api.Op{Kind: api.OpClose, Space: space} }

func offs(user string) api.Op { return api.Op{Kind: api.OpOff, User: user} }

// does is the command by which a session's op is done.
func does(session, seq int, o api.Op) api.Command {
	return api.Command{Kind: api.CmdOp, Id: api.Id{Session: session, Seq: seq}, Op: o, Slot: slots.Slots(o)[0]}
}

// begins is the command by which a session's transaction begins.
func begins(session, seq int, o api.Op) api.Command {
	return api.Command{Kind: api.CmdBegin, Id: api.Id{Session: session, Seq: seq}, Op: o}
}

// channel is the name of one that is of group 1, whose slots are 0 to 7 at first, or of group 2.
func channel(t *testing.T, of int) string {
	t.Helper()
	for c := 'a'; c <= 'z'; c++ {
		slot, e := slots.Of("w", string(c))
		if e == api.OK && slot/8 == of-1 {
			return string(c)
		}
	}
	t.Fatalf("no channel of the group %d", of)
	return ""
}

// put is a command as an entry's data.
func put(t *testing.T, c api.Command) string {
	t.Helper()
	s, e := command.Put(c)
	need(t, "Put", e, api.OK)
	return s
}

func need(t *testing.T, what string, e, want api.Errno) {
	t.Helper()
	if e != want {
		t.Fatalf("%s: %d, not %d", what, e, want)
	}
}

// machine is one of both kinds, of which the other one is nil.
type machine struct {
	head *meta.Machine
	part *shard.Machine
}

// newMachine is a group's one, of so many groups.
func newMachine(t *testing.T, of, groups int) machine {
	t.Helper()
	var m machine
	var e api.Errno
	if of == 0 {
		m.head, e = meta.New(groups)
	} else {
		m.part, e = shard.New(of, groups)
	}
	need(t, "a machine", e, api.OK)
	return m
}

// from is the group's machine of bytes, if they are one's.
func from(of int, s string) (machine, bool) {
	var m machine
	var e api.Errno
	if of == 0 {
		m.head, e = meta.From(s)
	} else {
		m.part, e = shard.From(s)
	}
	return m, e == api.OK
}

func (m machine) apply(c api.Command) (api.Reply, string) {
	if m.head != nil {
		return m.head.Apply(c), ""
	}
	r := m.part.Apply(c)
	return r.Reply, r.Data
}

func (m machine) bytes(t *testing.T) string {
	t.Helper()
	var s string
	var e api.Errno
	if m.head != nil {
		s, e = m.head.Bytes()
	} else {
		s, e = m.part.Bytes()
	}
	need(t, "Bytes", e, api.OK)
	return s
}

// bytesOf are a group's machine's, behind some commands.
func bytesOf(t *testing.T, of, groups int, list ...api.Command) string {
	t.Helper()
	m := newMachine(t, of, groups)
	for _, c := range list {
		m.apply(c)
	}
	return m.bytes(t)
}

// plain is a part by the chapter's words: behind each call it looks for what is committed in all that its node would save.
type plain struct {
	*testing.T
	of, groups int
	node       *raft.Node
	m          machine
	done       int
}

// data lets the machine be the one of some data.
func (p *plain) data(s string) {
	m, ok := from(p.of, s)
	if !ok {
		m = newMachine(p.T, p.of, p.groups)
	}
	p.m = m
}

// follow does what is committed then.
func (p *plain) follow() []group.Applied {
	s := p.node.Saved()
	if s.Base > p.done {
		p.data(s.Data)
		p.done = s.Base
	}
	var list []group.Applied
	for p.done < min(p.node.Commit(), s.Base+len(s.Entries)) {
		x := s.Entries[p.done-s.Base]
		p.done++
		c, e := command.From(x.Data)
		if e != api.OK {
			c = api.Command{}
		}
		r, data := p.m.apply(c)
		list = append(list, group.Applied{Index: p.done, Command: c, Reply: r, Data: data})
	}
	return list
}

// both are a part and a plain one, which have to do the same.
type both struct {
	*testing.T
	g *group.Group
	p *plain
}

// made is a new one.
func made(t *testing.T, of, groups, id, nodes int, s api.Saved, draw int) *both {
	t.Helper()
	g, e := group.New(of, groups, id, nodes, s, draw)
	need(t, "New", e, api.OK)
	node, e := raft.New(of, id, nodes, s, draw)
	need(t, "raft.New", e, api.OK)
	b := &both{t, g, &plain{T: t, of: of, groups: groups, node: node, done: s.Base}}
	b.p.data(s.Data)
	b.alike()
	return b
}

func (b *both) receive(m api.Message) ([]api.Message, []group.Applied) {
	b.Helper()
	out, list := b.g.Receive(m)
	b.same("Receive", out, b.p.node.Receive(m), list, b.p.follow())
	return out, list
}

func (b *both) tick(draw int) ([]api.Message, []group.Applied) {
	b.Helper()
	out, list := b.g.Tick(draw)
	b.same("Tick", out, b.p.node.Tick(draw), list, b.p.follow())
	return out, list
}

func (b *both) propose(c api.Command) (int, []api.Message, []group.Applied, api.Errno) {
	b.Helper()
	index, out, list, e := b.g.Propose(c)
	var wantOut []api.Message
	wantIndex := 0
	data, wantE := command.Put(c)
	if wantE == api.OK {
		wantIndex, _, wantOut, wantE = b.p.node.Propose(data)
	}
	if index != wantIndex || e != wantE {
		b.Fatalf("Propose: %d, %d, not %d, %d", index, e, wantIndex, wantE)
	}
	b.same("Propose", out, wantOut, list, b.p.follow())
	return index, out, list, e
}

func (b *both) compact(entries int) bool {
	b.Helper()
	count := b.p.done - b.p.node.Saved().Base
	data := b.p.m.bytes(b.T)
	want := count >= entries && count >= 1 && len(data) <= 1<<17
	if want {
		need(b.T, "raft.Compact", b.p.node.Compact(b.p.done, data), api.OK)
	}
	if got := b.g.Compact(entries); got != want {
		b.Fatalf("Compact(%d): %v, not %v", entries, got, want)
	}
	b.alike()
	return want
}

func (b *both) records() []api.Record {
	b.Helper()
	list, want := b.g.Records(), b.p.node.Records()
	if len(list) != len(want) || len(list) > 0 && !reflect.DeepEqual(list, want) {
		b.Fatalf("Records: %v, not %v", list, want)
	}
	return list
}

// same asks that a call answered the same to both, and left both alike.
func (b *both) same(what string, out, wantOut []api.Message, list, want []group.Applied) {
	b.Helper()
	if !reflect.DeepEqual(tidy(out), tidy(wantOut)) {
		b.Fatalf("%s sends %v, not %v", what, out, wantOut)
	}
	if !sameApplied(list, want) {
		b.Fatalf("%s did %v, not %v", what, list, want)
	}
	b.alike()
}

// alike asks that both are.
func (b *both) alike() {
	b.Helper()
	state, e := b.g.State()
	if want := b.p.m.bytes(b.T); state != want || e != api.OK {
		b.Fatalf("State: %q, %d, not %q", state, e, want)
	}
	if done := b.g.Done(); done != b.p.done {
		b.Fatalf("Done: %d, not %d", done, b.p.done)
	}
	if leads, want := b.g.Leads(), b.p.node.Role() == api.Leader; leads != want {
		b.Fatalf("Leads: %v, not %v", leads, want)
	}
	if s, want := b.g.Saved(), b.p.node.Saved(); !sameSaved(s, want) {
		b.Fatalf("Saved: %+v, not %+v", s, want)
	}
}

// begin is one that begins anew as this one was saved.
func (b *both) begin(id, nodes, draw int) *both {
	b.Helper()
	return made(b.T, b.p.of, b.p.groups, id, nodes, b.g.Saved(), draw)
}

// tidy are messages of which no list is empty but not nil.
func tidy(list []api.Message) []api.Message {
	var out []api.Message
	for _, m := range list {
		if len(m.Entries) == 0 {
			m.Entries = nil
		}
		out = append(out, m)
	}
	return out
}

// sameApplied is whether the same was done.
func sameApplied(a, b []group.Applied) bool {
	if len(a) != len(b) {
		return false
	}
	for i, x := range a {
		if !reflect.DeepEqual(tidyApplied(x), tidyApplied(b[i])) {
			return false
		}
	}
	return true
}

func tidyApplied(x group.Applied) group.Applied {
	if len(x.Reply.Posts) == 0 {
		x.Reply.Posts = nil
	}
	return x
}

// sameSaved is whether two parts are saved alike.
func sameSaved(a, b api.Saved) bool {
	if len(a.Entries) == 0 && len(b.Entries) == 0 {
		a.Entries, b.Entries = nil, nil
	}
	return reflect.DeepEqual(a, b)
}

// draws are numbers that look random, the same ones of each seed.
func draws(seed uint64) func(int) int {
	return func(below int) int {
		seed = seed*6364136223846793005 + 1442695040888963407
		return int((seed >> 33) % uint64(below))
	}
}
