package model

import (
	"rookery/api"
	"slices"
	"strings"
)

// makeChannel lets a channel be there, without members and posts.
func (m *Model) makeChannel(o api.Op) api.Errno {
	if m.has(o.Space, o.Channel) {
		return api.ErrThere
	}
	m.channels[keptName(o.Space, o.Channel)] = &channel{members: map[string]struct{}{}}
	return api.OK
}

// join lets a user be a member.
func (m *Model) join(o api.Op) api.Errno {
	c, e := m.find(o.Space, o.Channel)
	if e != api.OK {
		return e
	}
	if m.isOff(o.User) {
		return api.ErrOff
	}
	if c.isMember(o.User) {
		return api.ErrThere
	}
	c.members[strings.Clone(o.User)] = struct{}{}
	return api.OK
}

// post lets a member's text be the next post.
func (m *Model) post(o api.Op) api.Reply {
	c, e := m.find(o.Space, o.Channel)
	if e == api.OK {
		e = m.mayPost(c, o.User)
	}
	if e != api.OK {
		return api.Reply{Err: e}
	}
	c.posts = append(c.posts, api.Post{User: strings.Clone(o.User), Text: strings.Clone(o.Text)})
	return api.Reply{At: len(c.posts) - 1}
}

// mayPost is why a user may not post in a channel, if so.
func (m *Model) mayPost(c *channel, user string) api.Errno {
	switch {
	case m.isOff(user):
		return api.ErrOff
	case !c.isMember(user):
		return api.ErrMember
	case len(c.posts) >= api.MaxPosts:
		return api.ErrFull
	}
	return api.OK
}

// read is a page of a channel's posts.
func (m *Model) read(o api.Op) api.Reply {
	c, e := m.find(o.Space, o.Channel)
	if e != api.OK {
		return api.Reply{Err: e}
	}
	from := min(o.From, len(c.posts))
	end := min(from+o.Most, len(c.posts))
	return api.Reply{At: end, Posts: slices.Clone(c.posts[from:end])}
}

// move gives a channel another name.
func (m *Model) move(o api.Op) api.Errno {
	c, e := m.find(o.Space, o.Channel)
	if e != api.OK {
		return e
	}
	if m.has(o.ToSpace, o.To) {
		return api.ErrThere
	}
	delete(m.channels, name{o.Space, o.Channel})
	m.channels[keptName(o.ToSpace, o.To)] = c
	return api.OK
}

// closeSpace lets all channels of a workspace be gone.
func (m *Model) closeSpace(space string) {
	for n := range m.channels {
		if n.space == space {
			delete(m.channels, n)
		}
	}
}

// turnOff lets a user be off, and be no member of any channel.
func (m *Model) turnOff(user string) api.Errno {
	if m.isOff(user) {
		return api.ErrOff
	}
	m.off[strings.Clone(user)] = struct{}{}
	for _, c := range m.channels {
		delete(c.members, user)
	}
	return api.OK
}

// has is whether there is a channel of that name.
func (m *Model) has(space, channel string) bool {
	_, ok := m.channels[name{space, channel}]
	return ok
}

// isOff is whether a user is off.
func (m *Model) isOff(user string) bool {
	_, ok := m.off[user]
	return ok
}

// isMember is whether a user is one of the channel's.
func (c *channel) isMember(user string) bool {
	_, ok := c.members[user]
	return ok
}

// keptName is a name as it is kept: of its own bytes, since what is handed in may be a small piece of a text that should not be kept.
func keptName(space, channel string) name {
	return name{strings.Clone(space), strings.Clone(channel)}
}
