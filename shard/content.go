package shard

import (
	"maps"
	"rookery/api"
	"rookery/model"
	"rookery/session"
	"rookery/slots"
	"slices"
	"strings"
)

// content is what stands in a slot, and goes with it to another group.
type content struct {
	*model.Model
	*session.Table
	names map[name]struct{}   // of all channels: the model tells those of a workspace alone that one knows
	off   map[string]struct{} // who is off: the model doesn't tell them
	other map[seat]struct{}   // where a user is a member though not in the model, or is one in the model alone: see lay
	ended spans               // transactions
}

// nothing is the content of a slot that is new.
func nothing() content {
	return content{
		Model: model.New(),
		Table: session.New(),
		names: map[name]struct{}{},
		off:   map[string]struct{}{},
		other: map[seat]struct{}{},
	}
}

// name is what a channel is found by.
type name struct {
	space   string
	channel string
}

// nameOf is the channel that an op is about, or moves.
func nameOf(o api.Op) name { return name{o.Space, o.Channel} }

// toOf is the channel that an op makes of the one that it moves.
func toOf(o api.Op) name { return name{o.ToSpace, o.To} }

// kept is a name as it is kept: of its own bytes, since what is handed in may be small pieces of a text that should not be kept.
func (n name) kept() name { return name{strings.Clone(n.space), strings.Clone(n.channel)} }

// isOf is whether the channel is of that slot.
func (n name) isOf(number int) bool {
	slot, e := slots.Of(n.space, n.channel)
	return e == api.OK && slot == number
}

// compare is which name stands ahead.
func (n name) compare(m name) int {
	if c := strings.Compare(n.space, m.space); c != 0 {
		return c
	}
	return strings.Compare(n.channel, m.channel)
}

// seat is a user in a channel.
type seat struct {
	name
	user string
}

// channel is one as it goes from slot to slot.
type channel struct {
	members []string // rising
	posts   []api.Post
}

// has is whether there is a channel of that name.
func (c *content) has(n name) bool {
	_, ok := c.names[n]
	return ok
}

// isOff is whether a user is off.
func (c *content) isOff(user string) bool {
	_, ok := c.off[user]
	return ok
}

// isFull is whether the table takes note of no other session, and this is one.
func (c *content) isFull(session int) bool {
	_, e := c.Find(api.Id{Session: session, Seq: 1}) // the lowest one: no note of it is only where none of the session is
	return e == api.ErrNone && c.Table.Len() >= api.MaxOpen
}

// perform lets the model do an op, but for those who are members in the model alone.
func (c *content) perform(o api.Op) api.Reply {
	at := seat{nameOf(o), o.User}
	if _, other := c.other[at]; other && !c.isOff(o.User) {
		switch o.Kind {
		case api.OpJoin:
			delete(c.other, at)
			return api.Reply{}
		case api.OpPost:
			return api.Reply{Err: api.ErrMember}
		}
	}
	r := c.Do(o)
	if o.Kind == api.OpMake && r.Err == api.OK {
		c.names[nameOf(o).kept()] = struct{}{}
	}
	return r
}

// closeSpace lets all channels of a workspace be gone.
func (c *content) closeSpace(space string) {
	c.Do(api.Op{Kind: api.OpClose, Space: space})
	maps.DeleteFunc(c.names, func(n name, _ struct{}) bool { return n.space == space })
	maps.DeleteFunc(c.other, func(at seat, _ struct{}) bool { return at.space == space })
}

// turnOff lets a user be off, and be no member of any channel.
func (c *content) turnOff(user string) {
	c.Do(api.Op{Kind: api.OpOff, User: user})
	c.off[strings.Clone(user)] = struct{}{}
	maps.DeleteFunc(c.other, func(at seat, _ struct{}) bool { return at.user == user })
}

// channels are all of them.
func (c *content) channels() map[name]channel {
	all := make(map[name]channel, len(c.names))
	for n := range c.names {
		all[n] = c.channel(n)
	}
	return all
}

// channel is one that is there.
func (c *content) channel(n name) channel {
	members, _ := c.Members(n.space, n.channel)
	for at := range c.other {
		if at.name == n {
			members = turned(members, at.user)
		}
	}
	return channel{members: members, posts: c.posts(n)}
}

// turned are rising users without that one, or, if it is none of them, with it.
func turned(users []string, user string) []string {
	i, there := slices.BinarySearch(users, user)
	if there {
		return slices.Delete(users, i, i+1)
	}
	return slices.Insert(users, i, user)
}

// posts are all of a channel, read page by page.
func (c *content) posts(n name) []api.Post {
	var list []api.Post
	for {
		page := c.Do(api.Op{Kind: api.OpRead, Space: n.space, Channel: n.channel, From: len(list), Most: api.MaxPage}).Posts
		if len(page) == 0 {
			return list
		}
		list = append(list, page...)
	}
}

// lay lets these be all channels, in a model that is made anew. It is false, with nothing done, if they may not be.
//
// A model lets nobody post who was never a member, and lets nobody be a member who is off. But a channel that comes from another slot may have posts of users who were off there and are not here, and members who are off here: the one kind is a member in the model then, the other one is none, and both are taken note of.
func (c *content) lay(all map[name]channel) bool {
	next := nothing()
	for n, ch := range all {
		if !next.add(n, ch) {
			return false
		}
	}
	for user := range c.off {
		if next.Do(api.Op{Kind: api.OpOff, User: user}).Err != api.OK {
			return false
		}
	}
	for n, ch := range all {
		next.settle(n, ch.members)
	}
	c.Model, c.names, c.other = next.Model, next.names, next.other
	return true
}

// add lets a channel be there, whose members, and all who posted, are members. Nobody may be off yet.
func (c *content) add(n name, ch channel) bool {
	if c.perform(api.Op{Kind: api.OpMake, Space: n.space, Channel: n.channel}).Err != api.OK {
		return false
	}
	for _, user := range ch.members {
		if c.join(n, user) != api.OK {
			return false
		}
	}
	for _, p := range ch.posts {
		post := api.Op{Kind: api.OpPost, Space: n.space, Channel: n.channel, User: p.User, Text: p.Text}
		e := c.Do(post).Err
		if e == api.ErrMember {
			c.join(n, p.User)
			e = c.Do(post).Err
		}
		if e != api.OK {
			return false
		}
	}
	return true
}

// join lets a user be a member in the model.
func (c *content) join(n name, user string) api.Errno {
	return c.Do(api.Op{Kind: api.OpJoin, Space: n.space, Channel: n.channel, User: user}).Err
}

// settle takes note of where a channel's members, rising, are others than those in the model.
func (c *content) settle(n name, members []string) {
	inModel, _ := c.Members(n.space, n.channel)
	for _, user := range inModel {
		if _, there := slices.BinarySearch(members, user); !there {
			c.other[seat{n, user}] = struct{}{}
		}
	}
	for _, user := range members {
		if _, there := slices.BinarySearch(inModel, user); !there {
			c.other[seat{n, user}] = struct{}{}
		}
	}
}
