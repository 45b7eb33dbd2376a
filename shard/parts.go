package shard

import (
	"maps"
	"rookery/api"
	"rookery/command"
	"slices"
	"strings"
)

// Bytes is a machine as bytes.
func (m *Machine) Bytes() (string, api.Errno) {
	if !m.isMade() {
		return "", api.ErrArg
	}
	w := &writer{}
	for number, s := range m.slots {
		w.slot(s, number)
	}
	return sealed(markMachine, w), api.OK
}

// From is the machine of bytes.
func From(s string) (*Machine, api.Errno) {
	m, r := made(), opened(markMachine, s)
	for number := range m.slots {
		m.slots[number] = r.slot(number)
	}
	if !r.isDone() {
		return nil, api.ErrCommand
	}
	return m, api.OK
}

// putContent is what stands in a slot, as bytes.
func putContent(c *content) string {
	w := &writer{}
	w.content(c)
	return sealed(markContent, w)
}

// contentOf is what stands in a slot, of bytes.
func contentOf(s string) (content, bool) {
	r := opened(markContent, s)
	c := r.content()
	if !r.isDone() {
		return content{}, false
	}
	return c, true
}

// putChannel is a channel as bytes, without its name.
func putChannel(ch channel) string {
	w := &writer{}
	w.channel(ch)
	return sealed(markChannel, w)
}

// channelOf is the channel of bytes.
func channelOf(s string) (channel, bool) {
	r := opened(markChannel, s)
	ch := r.channel()
	if !r.isDone() {
		return channel{}, false
	}
	return ch, true
}

func (w *writer) slot(s *slot, number int) {
	w.number(s.state)
	if s.state == notHere {
		return // it never was here: all else in it is nought
	}
	w.number(s.epoch)
	w.number(s.plan)
	w.hold(s.hold, number)
	w.content(&s.content)
}

func (r *reader) slot(number int) *slot {
	s := &slot{state: r.number()}
	if s.state == notHere {
		return s
	}
	s.epoch, s.plan, s.hold, s.content = r.number(), r.number(), r.hold(number), r.content()
	r.must(isNumber(s.epoch))
	switch s.state {
	case here:
		r.must(s.plan == 0)
	case frozen:
		r.must(isNumber(s.plan) && s.hold.isNone())
	default:
		r.must(false)
	}
	r.must(!s.ended.has(s.hold.tx))
	return s
}

// hold puts a hold as the command that made it, with its vote. No bytes are none.
func (w *writer) hold(h hold, number int) {
	if h.isNone() {
		w.text("")
		return
	}
	b, _ := command.Put(api.Command{Kind: api.CmdLock, Tx: h.tx, Slot: number, Op: h.op, Err: h.vote}) // it is none that may not be put
	w.text(b)
}

func (r *reader) hold(number int) hold {
	b := r.text()
	if b == "" {
		return hold{}
	}
	c, e := command.From(b)
	r.must(e == api.OK && c.Slot == number && isTransaction(c) && isVote(c.Op, c.Err))
	r.must(c == api.Command{Kind: api.CmdLock, Tx: c.Tx, Slot: c.Slot, Op: c.Op, Err: c.Err})
	return hold{tx: c.Tx, op: c.Op, vote: c.Err}
}

// isVote is whether a slot may vote so on an op of several slots.
func isVote(o api.Op, e api.Errno) bool {
	switch e {
	case api.OK:
		return true
	case api.ErrOff:
		return o.Kind == api.OpOff
	case api.ErrNone, api.ErrThere:
		return o.Kind == api.OpMove
	}
	return false
}

func (w *writer) content(c *content) {
	w.users(slices.Sorted(maps.Keys(c.off)))
	w.number(len(c.names))
	for _, n := range slices.SortedFunc(maps.Keys(c.names), name.compare) {
		w.text(n.space)
		w.text(n.channel)
		w.channel(c.channel(n))
	}
	w.sessions(c)
	w.spans(c.ended)
}

func (r *reader) content() content {
	c := nothing()
	for _, user := range r.users() {
		c.off[user] = struct{}{}
	}
	all := map[name]channel{}
	var last name
	r.each(func() {
		n := name{r.text(), r.text()}.kept()
		r.must(n.compare(last) > 0)
		all[n], last = r.channel(), n
	})
	r.sessions(&c)
	c.ended = r.spans()
	r.must(c.lay(all))
	return c
}

func (w *writer) channel(ch channel) {
	w.users(ch.members)
	w.number(len(ch.posts))
	for _, p := range ch.posts {
		w.text(p.User)
		w.text(p.Text)
	}
}

func (r *reader) channel() channel {
	ch := channel{members: r.users()}
	r.each(func() {
		ch.posts = append(ch.posts, api.Post{User: r.text(), Text: r.text()})
	})
	return ch
}

// users puts some, rising.
func (w *writer) users(list []string) {
	w.number(len(list))
	for _, user := range list {
		w.text(user)
	}
}

// users takes some, rising. They are copies: whoever keeps one must not keep all the bytes that it stood in.
func (r *reader) users() []string {
	var list []string
	last := ""
	r.each(func() {
		user := strings.Clone(r.text())
		r.must(user > last)
		list, last = append(list, user), user
	})
	return list
}

// sessions puts what each asked last, and was answered, as what a client is told.
func (w *writer) sessions(c *content) {
	ids := c.Ids()
	w.number(len(ids))
	for _, id := range ids {
		r, _ := c.Find(id)
		b, _ := command.PutAnswer(id, r) // it is a reply of the model's, with nothing in it that may not be put
		w.text(b)
	}
}

func (r *reader) sessions(c *content) {
	last := -1
	r.each(func() {
		id, reply, e := command.FromAnswer(r.text())
		r.must(e == api.OK && id.Session > last && c.Put(id, reply) == api.OK)
		last = id.Session
	})
}

// spans puts of each how far behind the one ahead it begins, and how long it is.
func (w *writer) spans(list spans) {
	w.number(len(list))
	last := 0
	for _, s := range list {
		w.number(s.low - last)
		w.number(s.high - s.low)
		last = s.high
	}
}

func (r *reader) spans() spans {
	var list spans
	last := 0
	r.each(func() {
		gap, more := r.number(), r.number()
		// The gap is asked alone, too: with one that may be, no sum is wrapped round to one that may be.
		r.must(isNumber(gap) && isNumber(last+gap+more))
		r.must(len(list) == 0 || gap > 1)
		s := span{last + gap, last + gap + more}
		list, last = append(list, s), s.high
	})
	return list
}
