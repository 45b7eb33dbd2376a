package model_test

import (
	"math"
	"reflect"
	"regexp"
	"rookery/api"
	"rookery/model"
	"slices"
	"strings"
	"testing"
	"unicode/utf8"
)

// Ops by their kinds.

func makes(space, channel string) api.Op {
	return api.Op{Kind: api.OpMake, Space: space, Channel: channel}
}

func joins(space, channel, user string) api.Op {
	return api.Op{Kind: api.OpJoin, Space: space, Channel: channel, User: user}
}

func posts(space, channel, user, text string) api.Op {
	return api.Op{Kind: api.OpPost, Space: space, Channel: channel, User: user, Text: text}
}

func reads(space, channel string, from, most int) api.Op {
	return api.Op{Kind: api.OpRead, Space: space, Channel: channel, From: from, Most: most}
}

func moves(space, channel, toSpace, to string) api.Op {
	return api.Op{Kind: api.OpMove, Space: space, Channel: channel, ToSpace: toSpace, To: to}
}

func closes(space string) api.Op { return api.Op{Kind: api.OpClose, Space: space} }

func offs(user string) api.Op { return api.Op{Kind: api.OpOff, User: user} }

// fieldsOf are the fields that an op of a kind has.
var fieldsOf = map[int]string{
	api.OpMake:  "Space Channel",
	api.OpJoin:  "Space Channel User",
	api.OpPost:  "Space Channel User Text",
	api.OpRead:  "Space Channel From Most",
	api.OpMove:  "Space Channel ToSpace To",
	api.OpClose: "Space",
	api.OpOff:   "User",
}

var label = regexp.MustCompile(`\A[-0-9a-z]{1,16}\z`)

// plainCheck is Check by the chapter's words, field by field.
func plainCheck(o api.Op) api.Errno {
	fields, ok := fieldsOf[o.Kind]
	if !ok {
		return api.ErrArg
	}
	v := reflect.ValueOf(o)
	for i := range v.NumField() {
		name := v.Type().Field(i).Name
		if name != "Kind" && !plainField(name, v.Field(i), slices.Contains(strings.Fields(fields), name)) {
			return api.ErrArg
		}
	}
	return api.OK
}

func plainField(name string, v reflect.Value, used bool) bool {
	switch {
	case !used:
		return v.IsZero()
	case name == "Text":
		return v.Len() <= 1024 && utf8.ValidString(v.String())
	case name == "From":
		return v.Int() >= 0 && v.Int() <= 2147483647
	case name == "Most":
		return v.Int() >= 0 && v.Int() <= 64
	}
	return label.MatchString(v.String())
}

// plain is a model by the chapter's words: lists that are gone through whenever it is asked.
type plain struct {
	list []*plainChannel
	off  []string
}

type plainChannel struct {
	space, name string
	members     []string
	posts       []api.Post
}

func (p *plain) find(space, name string) *plainChannel {
	for _, c := range p.list {
		if c.space == space && c.name == name {
			return c
		}
	}
	return nil
}

func (p *plain) do(o api.Op) (r api.Reply) {
	r.Err = p.refuse(o)
	if r.Err != api.OK {
		return r
	}
	c := p.find(o.Space, o.Channel)
	switch o.Kind {
	case api.OpMake:
		p.list = append(p.list, &plainChannel{space: o.Space, name: o.Channel})
	case api.OpJoin:
		c.members = append(c.members, o.User)
	case api.OpPost:
		r.At = len(c.posts)
		c.posts = append(c.posts, api.Post{User: o.User, Text: o.Text})
	case api.OpRead:
		for n, post := range c.posts {
			if n >= o.From && len(r.Posts) < o.Most {
				r.Posts = append(r.Posts, post)
			}
		}
		r.At = min(o.From, len(c.posts)) + len(r.Posts)
	case api.OpMove:
		c.space, c.name = o.ToSpace, o.To
	case api.OpClose:
		p.list = without(p.list, func(c *plainChannel) bool { return c.space == o.Space })
	case api.OpOff:
		p.off = append(p.off, o.User)
		for _, c := range p.list {
			c.members = without(c.members, func(user string) bool { return user == o.User })
		}
	}
	return r
}

// refuse is the first error that applies to an op.
func (p *plain) refuse(o api.Op) api.Errno {
	if plainCheck(o) != api.OK {
		return api.ErrArg
	}
	c := p.find(o.Space, o.Channel)
	isOff := slices.Contains(p.off, o.User)
	switch {
	case c == nil && slices.Contains([]int{api.OpJoin, api.OpPost, api.OpRead, api.OpMove}, o.Kind):
		return api.ErrNone
	case isOff && slices.Contains([]int{api.OpJoin, api.OpPost, api.OpOff}, o.Kind):
		return api.ErrOff
	case o.Kind == api.OpPost && !slices.Contains(c.members, o.User):
		return api.ErrMember
	case o.Kind == api.OpMake && c != nil,
		o.Kind == api.OpJoin && slices.Contains(c.members, o.User),
		o.Kind == api.OpMove && p.find(o.ToSpace, o.To) != nil:
		return api.ErrThere
	case o.Kind == api.OpPost && len(c.posts) >= 1024:
		return api.ErrFull
	}
	return api.OK
}

func without[T any](list []T, which func(T) bool) (left []T) {
	for _, x := range list {
		if !which(x) {
			left = append(left, x)
		}
	}
	return left
}

func (p *plain) copy() *plain {
	q := &plain{off: slices.Clone(p.off)}
	for _, c := range p.list {
		q.list = append(q.list, &plainChannel{c.space, c.name, slices.Clone(c.members), slices.Clone(c.posts)})
	}
	return q
}

// both are a model and a plain one, of which the same is asked.
type both struct {
	*testing.T
	m *model.Model
	p *plain
}

// made are both models, behind these ops.
func made(t *testing.T, ops ...api.Op) both {
	t.Helper()
	m := model.New()
	if m == nil {
		t.Fatal("New gave nothing")
	}
	b := both{t, m, &plain{}}
	b.all(ops...)
	return b
}

func (b both) copy() both {
	b.Helper()
	m := b.m.Copy()
	if m == nil || m == b.m {
		b.Fatal("Copy gave no other model")
	}
	return both{b.T, m, b.p.copy()}
}

func (b both) do(o api.Op) api.Reply {
	b.Helper()
	got, want := b.m.Do(o), b.p.do(o)
	if !sameReply(got, want) {
		b.Errorf("Do(%v): %v, not %v", o, got, want)
	}
	return got
}

// all does ops that none is refused of.
func (b both) all(ops ...api.Op) {
	b.Helper()
	for _, o := range ops {
		if r := b.do(o); r.Err != api.OK {
			b.Errorf("Do(%v): %d", o, r.Err)
		}
	}
}

// tells does an op that is answered an error (or OK) alone, and asks that what was refused left all as it was.
func (b both) tells(o api.Op, want api.Errno) {
	b.Helper()
	if r := b.do(o); !sameReply(r, api.Reply{Err: want}) {
		b.Errorf("Do(%v): %v, not %d", o, r, want)
	}
	b.same()
}

func sameReply(a, b api.Reply) bool {
	return a.Err == b.Err && a.At == b.At && slices.Equal(a.Posts, b.Posts)
}

// same asks that both models have the same channels, members and posts. (Who is off is told by ops alone.)
func (b both) same(spaces ...string) {
	b.Helper()
	for _, c := range b.p.list {
		spaces = append(spaces, c.space)
	}
	for _, space := range append(spaces, "w", "v", "never") {
		b.sameChannels(space)
	}
	for _, c := range b.p.list {
		b.sameChannel(c)
	}
}

func (b both) sameChannels(space string) {
	b.Helper()
	var want []string
	for _, c := range b.p.list {
		if c.space == space {
			want = append(want, c.name)
		}
	}
	slices.SortFunc(want, strings.Compare)
	if got := b.m.Channels(space); !slices.Equal(got, want) {
		b.Errorf("Channels(%q): %q, not %q", space, got, want)
	}
}

func (b both) sameChannel(c *plainChannel) {
	b.Helper()
	want := slices.SortedFunc(slices.Values(c.members), strings.Compare)
	if got, e := b.m.Members(c.space, c.name); !slices.Equal(got, want) || e != api.OK {
		b.Errorf("Members(%q, %q): %q, %d, not %q", c.space, c.name, got, e, want)
	}
	if got, e := b.m.Len(c.space, c.name); got != len(c.posts) || e != api.OK {
		b.Errorf("Len(%q, %q): %d, %d, not %d", c.space, c.name, got, e, len(c.posts))
	}
	var list []api.Post
	for len(list) <= len(c.posts) {
		r := b.m.Do(reads(c.space, c.name, len(list), 64))
		list = append(list, r.Posts...)
		if r.Err != api.OK || r.At != len(list) || len(r.Posts) == 0 {
			break
		}
	}
	if !slices.Equal(list, c.posts) {
		b.Errorf("%q, %q has the posts %v, not %v", c.space, c.name, list, c.posts)
	}
}

// gone asks that there is no such channel.
func (b both) gone(space, channel string) {
	b.Helper()
	if list, e := b.m.Members(space, channel); len(list) != 0 || e != api.ErrNone {
		b.Errorf("Members(%q, %q): %q, %d", space, channel, list, e)
	}
	if n, e := b.m.Len(space, channel); n != 0 || e != api.ErrNone {
		b.Errorf("Len(%q, %q): %d, %d", space, channel, n, e)
	}
	if slices.Contains(b.m.Channels(space), channel) {
		b.Errorf("%q has the channel %q", space, channel)
	}
}

// draws are numbers that look random, the same ones of each seed.
func draws(seed uint64) func(int) int {
	return func(below int) int {
		seed = seed*6364136223846793005 + 1442695040888963407
		return int((seed >> 33) % uint64(below))
	}
}

// beyond are numbers far out.
var beyond = []int{math.MinInt, math.MinInt + 1, -1 << 32, -1 << 31, -2, -1, 1 << 32, 1<<32 + 1, 1 << 62, math.MaxInt - 1, math.MaxInt}
