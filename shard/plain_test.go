package shard_test

import (
	"fmt"
	"math"
	"reflect"
	"rookery/api"
	"rookery/model"
	"rookery/shard"
	"rookery/slots"
	"slices"
	"strings"
	"testing"
)

// Ops by their kinds.

func makes(space, channel string) api.Op {
	return api.Op{Kind: api.OpMake, Space: space, Channel: channel}
}

func joins(space, channel, user string) api.Op {
	return api.Op{Kind: api.OpJoin, Space: space, Channel: channel, User: user}
}

func posts(space, channel, user, text string) api.Op {
	return api.Op{Kind: api.OpPost, Space: space, Channel: channel, User: user, Text: text}
}

func reads(space, channel string, from, most int) api.Op {
	return api.Op{Kind: api.OpRead, Space: space, Channel: channel, From: from, Most: most}
}

func moves(space, channel, toSpace, to string) api.Op {
	return api.Op{Kind: api.OpMove, Space: space, Channel: channel, ToSpace: toSpace, To: to}
}

func closes(space string) api.Op { return api.Op{Kind: api.OpClose, Space: space} }

func offs(user string) api.Op { return api.Op{Kind: api.OpOff, User: user} }

// Commands by their kinds.

func ops(session, seq, slot int, o api.Op) api.Command {
	return api.Command{Kind: api.CmdOp, Id: api.Id{Session: session, Seq: seq}, Slot: slot, Op: o}
}

func locks(tx, slot int, o api.Op) api.Command {
	return api.Command{Kind: api.CmdLock, Tx: tx, Slot: slot, Op: o}
}

func finishes(tx, slot int, o api.Op, ok bool, data string) api.Command {
	return api.Command{Kind: api.CmdFinish, Tx: tx, Slot: slot, Op: o, Ok: ok, Data: data}
}

func freezes(plan, slot, epoch int) api.Command {
	return api.Command{Kind: api.CmdFreeze, Plan: plan, Slot: slot, Epoch: epoch}
}

func takes(plan, slot, epoch int, data string) api.Command {
	return api.Command{Kind: api.CmdTake, Plan: plan, Slot: slot, Epoch: epoch, Data: data}
}

// named is the nth channel of a workspace that is of a slot.
func named(t *testing.T, space string, slot, nth int) string {
	t.Helper()
	for i := range 10000 {
		name := fmt.Sprint("c", i)
		if s, e := slots.Of(space, name); e == api.OK && s == slot {
			if nth == 0 {
				return name
			}
			nth--
		}
	}
	t.Fatalf("no channel %d of the slot %d", nth, slot)
	return ""
}

// beyond are numbers far out.
var beyond = []int{math.MinInt, math.MinInt + 1, -1 << 40, -1 << 32, -1 << 31, -2, -1, 1 << 41, 1<<48 + 1, 1 << 62, math.MaxInt - 1, math.MaxInt}

// draws are numbers that look random, the same ones of each seed.
func draws(seed uint64) func(int) int {
	return func(below int) int {
		seed = seed*6364136223846793005 + 1442695040888963407
		return int((seed >> 33) % uint64(below))
	}
}

// plainChannel is a channel by the chapter's words: also what CmdLock tells of it.
type plainChannel struct {
	space, name string
	members     []string
	posts       []api.Post
}

func (c *plainChannel) copy() *plainChannel {
	return &plainChannel{c.space, c.name, slices.Clone(c.members), slices.Clone(c.posts)}
}

type plainNote struct {
	id    api.Id
	reply api.Reply
}

type plainHold struct {
	tx   int
	op   api.Op
	vote api.Errno
}

// plainSlot is a slot by the chapter's words: lists that are gone through whenever it is asked.
type plainSlot struct {
	state, epoch, plan int
	list               []*plainChannel
	off                []string
	notes              []plainNote
	ended              []int
	holds              []plainHold
}

// stands is all that stands in the slot, as CmdFreeze tells it, sorted.
func (s *plainSlot) stands() *plainSlot {
	t := &plainSlot{off: slices.Sorted(slices.Values(s.off)), ended: slices.Sorted(slices.Values(s.ended))}
	for _, c := range s.list {
		c := c.copy()
		slices.Sort(c.members)
		t.list = append(t.list, c)
	}
	slices.SortFunc(t.list, func(a, b *plainChannel) int { return strings.Compare(a.space+"/"+a.name, b.space+"/"+b.name) })
	for _, n := range s.notes {
		n.reply.Posts = slices.Clone(n.reply.Posts)
		t.notes = append(t.notes, n)
	}
	slices.SortFunc(t.notes, func(a, b plainNote) int { return a.id.Session - b.id.Session })
	return t
}

func (s *plainSlot) copy() *plainSlot {
	t := s.stands()
	t.state, t.epoch, t.plan, t.holds = s.state, s.epoch, s.plan, slices.Clone(s.holds)
	return t
}

func (s *plainSlot) find(space, name string) *plainChannel {
	for _, c := range s.list {
		if c.space == space && c.name == name {
			return c
		}
	}
	return nil
}

func without[T any](list []T, which func(T) bool) (left []T) {
	for _, x := range list {
		if !which(x) {
			left = append(left, x)
		}
	}
	return left
}

// do does an op of one channel, which may be.
func (s *plainSlot) do(o api.Op) (r api.Reply) {
	c := s.find(o.Space, o.Channel)
	isOff := slices.Contains(s.off, o.User)
	switch {
	case o.Kind == api.OpMake && c != nil:
		r.Err = api.ErrThere
	case o.Kind == api.OpMake:
		s.list = append(s.list, &plainChannel{space: o.Space, name: o.Channel})
	case c == nil:
		r.Err = api.ErrNone
	case o.Kind == api.OpRead:
		for n, post := range c.posts {
			if n >= o.From && len(r.Posts) < o.Most {
				r.Posts = append(r.Posts, post)
			}
		}
		r.At = min(o.From, len(c.posts)) + len(r.Posts)
	case isOff:
		r.Err = api.ErrOff
	case o.Kind == api.OpJoin && slices.Contains(c.members, o.User):
		r.Err = api.ErrThere
	case o.Kind == api.OpJoin:
		c.members = append(c.members, o.User)
	case !slices.Contains(c.members, o.User):
		r.Err = api.ErrMember
	case len(c.posts) >= 1024:
		r.Err = api.ErrFull
	default:
		r.At = len(c.posts)
		c.posts = append(c.posts, api.Post{User: o.User, Text: o.Text})
	}
	return r
}

// plain is a machine by the chapter's words. Data are what they stand for: a channel, or a slot.
type plain struct{ slots [16]*plainSlot }

func plainNew(group, groups int) *plain {
	p := &plain{}
	for s := range p.slots {
		p.slots[s] = &plainSlot{}
		if 1+s*groups/16 == group {
			p.slots[s].state, p.slots[s].epoch = 1, 1
		}
	}
	return p
}

func (p *plain) copy() *plain {
	q := &plain{}
	for i, s := range p.slots {
		q.slots[i] = s.copy()
	}
	return q
}

func err(e api.Errno) (api.Reply, any) { return api.Reply{Err: e}, nil }

func (p *plain) apply(c api.Command, data any) (api.Reply, any) {
	if c.Kind == api.CmdNone {
		return err(api.OK)
	}
	if c.Slot < 0 || c.Slot > 15 || c.Kind < 1 || c.Kind > 5 {
		return err(api.ErrArg)
	}
	s := p.slots[c.Slot]
	switch c.Kind {
	case api.CmdOp:
		return s.ask(c)
	case api.CmdLock:
		return s.lock(c)
	case api.CmdFinish:
		ch, _ := data.(*plainChannel)
		return s.finish(c, ch)
	case api.CmdFreeze:
		return s.freeze(c)
	}
	t, _ := data.(*plainSlot)
	return s.take(c, t)
}

// isOf is whether a channel is of a slot.
func isOf(space, channel string, slot int) bool {
	s, e := slots.Of(space, channel)
	return e == api.OK && s == slot
}

func (s *plainSlot) ask(c api.Command) (api.Reply, any) {
	o := c.Op
	switch {
	case model.Check(o) != api.OK || o.Kind > api.OpRead || !isOf(o.Space, o.Channel, c.Slot):
		return err(api.ErrArg)
	case s.state == 0:
		return err(api.ErrStale)
	case s.state == 2:
		return err(api.ErrBusy)
	case c.Id.Session < 0 || c.Id.Session > 1<<31-1 || c.Id.Seq < 1 || c.Id.Seq > 1<<31-1:
		return err(api.ErrArg)
	}
	i := slices.IndexFunc(s.notes, func(n plainNote) bool { return n.id.Session == c.Id.Session })
	if i >= 0 && s.notes[i].id == c.Id {
		return s.notes[i].reply, nil
	}
	if i >= 0 && s.notes[i].id.Seq > c.Id.Seq {
		return err(api.ErrOld)
	}
	if slices.ContainsFunc(s.holds, func(h plainHold) bool { return inTheWay(h.op, o) }) {
		return err(api.ErrBusy)
	}
	if i < 0 && len(s.notes) >= 64 {
		return err(api.ErrFull)
	}
	r := s.do(o)
	s.notes = append(without(s.notes, func(n plainNote) bool { return n.id.Session == c.Id.Session }), plainNote{c.Id, r})
	return r, nil
}

func inTheWay(h, o api.Op) bool {
	return h.Kind == api.OpClose && o.Space == h.Space ||
		h.Kind == api.OpOff && o.User == h.User ||
		h.Kind == api.OpMove && (o.Space == h.Space && o.Channel == h.Channel || o.Space == h.ToSpace && o.Channel == h.To)
}

// refusesTx is what CmdLock and CmdFinish have in common.
func (s *plainSlot) refusesTx(c api.Command) api.Errno {
	o := c.Op
	about := o.Kind == api.OpClose || o.Kind == api.OpOff ||
		o.Kind == api.OpMove && (isOf(o.Space, o.Channel, c.Slot) || isOf(o.ToSpace, o.To, c.Slot))
	switch {
	case c.Tx < 1 || c.Tx > 1<<40 || model.Check(o) != api.OK || !about:
		return api.ErrArg
	case s.state == 0:
		return api.ErrStale
	case s.state == 2:
		return api.ErrBusy
	}
	return api.OK
}

func (s *plainSlot) lock(c api.Command) (api.Reply, any) {
	if e := s.refusesTx(c); e != api.OK {
		return err(e)
	}
	if slices.Contains(s.ended, c.Tx) {
		return err(api.ErrOld)
	}
	if len(s.holds) > 0 && s.holds[0].tx != c.Tx {
		return err(api.ErrBusy)
	}
	if len(s.holds) == 0 {
		s.holds = []plainHold{{c.Tx, c.Op, s.vote(c.Op, c.Slot)}}
	}
	h := s.holds[0]
	if ch := s.find(h.op.Space, h.op.Channel); ch != nil && h.op.Kind == api.OpMove && h.vote == api.OK && isOf(ch.space, ch.name, c.Slot) {
		ch = ch.copy()
		slices.Sort(ch.members)
		ch.space, ch.name = "", "" // what it is called where it will be is told by the op
		return api.Reply{Err: h.vote}, ch
	}
	return err(h.vote)
}

func (s *plainSlot) vote(o api.Op, slot int) api.Errno {
	switch {
	case o.Kind == api.OpOff && slices.Contains(s.off, o.User):
		return api.ErrOff
	case o.Kind == api.OpMove && isOf(o.Space, o.Channel, slot) && s.find(o.Space, o.Channel) == nil:
		return api.ErrNone
	case o.Kind == api.OpMove && isOf(o.ToSpace, o.To, slot) && s.find(o.ToSpace, o.To) != nil:
		return api.ErrThere
	}
	return api.OK
}

func (s *plainSlot) finish(c api.Command, moved *plainChannel) (api.Reply, any) {
	if e := s.refusesTx(c); e != api.OK {
		return err(e)
	}
	o := c.Op
	if slices.Contains(s.ended, c.Tx) {
		return err(api.OK)
	}
	if c.Ok && o.Kind == api.OpMove && isOf(o.ToSpace, o.To, c.Slot) && moved == nil {
		return err(api.ErrCommand)
	}
	s.holds = without(s.holds, func(h plainHold) bool { return h.tx == c.Tx })
	s.ended = append(s.ended, c.Tx)
	if c.Ok {
		s.end(c, moved)
	}
	return err(api.OK)
}

func (s *plainSlot) end(c api.Command, moved *plainChannel) {
	o := c.Op
	gone := func(space, name string) {
		s.list = without(s.list, func(c *plainChannel) bool { return c.space == space && c.name == name })
	}
	switch o.Kind {
	case api.OpClose:
		s.list = without(s.list, func(c *plainChannel) bool { return c.space == o.Space })
	case api.OpOff:
		if !slices.Contains(s.off, o.User) {
			s.off = append(s.off, o.User)
		}
		for _, ch := range s.list {
			ch.members = without(ch.members, func(user string) bool { return user == o.User })
		}
	case api.OpMove:
		if isOf(o.Space, o.Channel, c.Slot) {
			gone(o.Space, o.Channel)
		}
		if isOf(o.ToSpace, o.To, c.Slot) {
			gone(o.ToSpace, o.To)
			moved = moved.copy()
			moved.space, moved.name = o.ToSpace, o.To
			s.list = append(s.list, moved)
		}
	}
}

func (s *plainSlot) freeze(c api.Command) (api.Reply, any) {
	switch {
	case c.Plan < 1 || c.Plan > 1<<40 || c.Epoch < 1 || c.Epoch > 1<<40:
		return err(api.ErrArg)
	case s.state == 0 || c.Epoch > s.epoch:
		return err(api.ErrStale)
	case c.Epoch < s.epoch:
		return err(api.ErrOld)
	case s.state == 2 && s.plan != c.Plan, len(s.holds) > 0:
		return err(api.ErrBusy)
	}
	s.state, s.plan = 2, c.Plan
	return api.Reply{}, s.stands()
}

func (s *plainSlot) take(c api.Command, t *plainSlot) (api.Reply, any) {
	switch {
	case c.Plan < 1 || c.Plan > 1<<40 || c.Epoch < 1 || c.Epoch > 1<<40:
		return err(api.ErrArg)
	case s.epoch >= c.Epoch:
		return err(api.OK)
	case t == nil:
		return err(api.ErrCommand)
	}
	*s = *t.stands()
	s.state, s.epoch = 1, c.Epoch
	return err(api.OK)
}

func (p *plain) channels(space string) []string {
	var list []string
	for _, s := range p.slots {
		for _, c := range s.list {
			if c.space == space {
				list = append(list, c.name)
			}
		}
	}
	slices.Sort(list)
	return slices.Compact(list)
}

// both are a machine and a plain one, of which the same is asked; and what the bytes stand for that were told as Data.
type both struct {
	*testing.T
	m    *shard.Machine
	p    *plain
	told map[string]any
}

// made are both machines.
func made(t *testing.T, group, groups int) *both {
	t.Helper()
	return also(t, group, groups, map[string]any{})
}

// also are both machines of another group, which know what was told as Data elsewhere.
func also(t *testing.T, group, groups int, told map[string]any) *both {
	t.Helper()
	m, e := shard.New(group, groups)
	if m == nil || e != api.OK {
		t.Fatalf("New(%d, %d): %v, %d", group, groups, m, e)
	}
	return &both{t, m, plainNew(group, groups), told}
}

// bytes are the machine's.
func bytes(t *testing.T, m *shard.Machine) string {
	t.Helper()
	s, e := m.Bytes()
	if s == "" || e != api.OK {
		t.Fatalf("Bytes: %q, %d", s, e)
	}
	return s
}

// from is the machine of bytes, which must be told as the same ones.
func from(t *testing.T, s string) *shard.Machine {
	t.Helper()
	m, e := shard.From(s)
	if m == nil || e != api.OK {
		t.Fatalf("From(%x): %v, %d", s, m, e)
	}
	if again := bytes(t, m); again != s {
		t.Fatalf("From(%x), Bytes: %x", s, again)
	}
	return m
}

// copy are both machines as they are now.
func (b *both) copy() *both {
	b.Helper()
	return &both{b.T, from(b.T, bytes(b.T, b.m)), b.p.copy(), b.told}
}

func sameReply(a, b api.Reply) bool {
	return a.Err == b.Err && a.At == b.At && slices.Equal(a.Posts, b.Posts)
}

// apply does a command with both, and with a third machine that is made of the first one's bytes: all must answer the same, and go on from the same bytes.
func (b *both) apply(c api.Command) shard.Result {
	b.Helper()
	twin := from(b.T, bytes(b.T, b.m))
	want, data := b.p.apply(c, b.told[c.Data])
	got, other := b.m.Apply(c), twin.Apply(c)
	if !sameReply(got.Reply, want) {
		b.Errorf("Apply(%+v): %v, not %v", c, got.Reply, want)
	}
	if !sameReply(other.Reply, want) || other.Data != got.Data {
		b.Errorf("Apply(%+v) of the machine of the bytes: %v, %q, not %v, %q", c, other.Reply, other.Data, want, got.Data)
	}
	if bytes(b.T, b.m) != bytes(b.T, twin) {
		b.Errorf("Apply(%+v): the machine of the bytes is another one then", c)
	}
	b.tells(c, got.Data, data)
	b.same()
	return got
}

// tells asks that bytes are told where something stands in them, and stand for one thing.
func (b *both) tells(c api.Command, s string, data any) {
	b.Helper()
	if (s == "") != (data == nil) {
		b.Errorf("Apply(%+v): Data %q, for %+v", c, s, data)
	}
	if s == "" {
		return
	}
	if old, ok := b.told[s]; ok && !reflect.DeepEqual(normal(old), normal(data)) {
		b.Errorf("Apply(%+v): Data %q, as also for %+v", c, s, old)
	}
	b.told[s] = data
}

// normal is data in which a list that is empty is nil.
func normal(data any) string { return plainText(reflect.ValueOf(data)) }

func plainText(v reflect.Value) string {
	switch v.Kind() {
	case reflect.Pointer:
		return "*" + plainText(v.Elem())
	case reflect.Slice:
		var list []string
		for i := range v.Len() {
			list = append(list, plainText(v.Index(i)))
		}
		return fmt.Sprint(len(list), list)
	case reflect.Struct:
		var list []string
		for i := range v.NumField() {
			list = append(list, plainText(v.Field(i)))
		}
		return fmt.Sprint("{", strings.Join(list, ", "), "}")
	}
	return fmt.Sprintf("%#v", v)
}

// err asks that a command is answered an error (or OK) alone, without Data.
func (b *both) err(want api.Errno, c api.Command) {
	b.Helper()
	was := bytes(b.T, b.m)
	if r := b.apply(c); !sameReply(r.Reply, api.Reply{Err: want}) || r.Data != "" {
		b.Errorf("Apply(%+v): %v, %q, not %d", c, r.Reply, r.Data, want)
	}
	if c.Kind != api.CmdLock && c.Kind != api.CmdOp && want != api.OK && bytes(b.T, b.m) != was {
		b.Errorf("Apply(%+v) was refused, and the machine is another one", c)
	}
}

// refused asks that a command is answered an error, and changes nothing.
func (b *both) refused(want api.Errno, c api.Command) {
	b.Helper()
	was := bytes(b.T, b.m)
	b.err(want, c)
	if bytes(b.T, b.m) != was {
		b.Errorf("Apply(%+v): the machine is another one", c)
	}
}

// data asks that a command is answered OK, with Data.
func (b *both) data(c api.Command) string {
	b.Helper()
	r := b.apply(c)
	if !sameReply(r.Reply, api.Reply{}) || r.Data == "" {
		b.Errorf("Apply(%+v): %v, %q", c, r.Reply, r.Data)
	}
	return r.Data
}

// same asks that both machines tell the same.
func (b *both) same() {
	b.Helper()
	spaces := []string{"w", "v", "x", "", "never"}
	for i, s := range b.p.slots {
		if state, epoch, e := b.m.Slot(i); state != s.state || epoch != s.epoch || e != api.OK {
			b.Errorf("Slot(%d): %d, %d, %d, not %d, %d", i, state, epoch, e, s.state, s.epoch)
		}
		if n := b.m.Holds(i); n != len(s.holds) {
			b.Errorf("Holds(%d): %d, not %d", i, n, len(s.holds))
		}
	}
	for _, space := range spaces {
		if got, want := b.m.Channels(space), b.p.channels(space); !slices.Equal(got, want) {
			b.Errorf("Channels(%q): %q, not %q", space, got, want)
		}
	}
}

// look asks, of copies of both, for each channel of a slot what it has, and who is a member, by ops of a session that is there, or may come.
func (b *both) look(slot int, users ...string) {
	b.Helper()
	c := b.copy()
	session, seq := 77777, 1
	if notes := c.p.slots[slot].notes; len(notes) > 0 {
		session, seq = notes[0].id.Session, notes[0].id.Seq+1
	}
	for _, ch := range c.p.slots[slot].stands().list {
		list := []api.Op{makes(ch.space, ch.name)}
		for from := 0; from <= len(ch.posts); from += 64 {
			list = append(list, reads(ch.space, ch.name, from, 64))
		}
		for _, user := range users {
			list = append(list, posts(ch.space, ch.name, user, "look"), joins(ch.space, ch.name, user))
		}
		for _, o := range list {
			c.apply(ops(session, seq, slot, o))
			seq++
		}
	}
}
