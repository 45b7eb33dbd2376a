package model_test

import (
	"math"
	"rookery/api"
	"rookery/model"
	"slices"
	"strconv"
	"strings"
	"testing"
)

func TestTheChaptersExample(t *testing.T) {
	m := model.New()
	for _, c := range []struct {
		o    api.Op
		want api.Reply
	}{
		{makes("w", "c"), api.Reply{}},
		{joins("w", "c", "ann"), api.Reply{}},
		{posts("w", "c", "ann", "hi"), api.Reply{At: 0}},
		{posts("w", "c", "ann", "ho"), api.Reply{At: 1}},
		{reads("w", "c", 0, 64), api.Reply{At: 2, Posts: []api.Post{{User: "ann", Text: "hi"}, {User: "ann", Text: "ho"}}}},
		{offs("ann"), api.Reply{}},
		{posts("w", "c", "ann", "hi"), api.Reply{Err: api.ErrOff}},
		{reads("w", "c", 1, 64), api.Reply{At: 2, Posts: []api.Post{{User: "ann", Text: "ho"}}}},
	} {
		if r := m.Do(c.o); !sameReply(r, c.want) {
			t.Errorf("Do(%v): %v, not %v", c.o, r, c.want)
		}
	}
}

func TestAModelWithoutAnything(t *testing.T) {
	b := made(t)
	b.same("", "W", "\xff")
	b.gone("w", "c")
	b.gone("", "")
	for _, o := range []api.Op{joins("w", "c", "ann"), posts("w", "c", "ann", "hi"), reads("w", "c", 0, 0), reads("w", "c", 9, 9), moves("w", "c", "v", "d"), moves("w", "c", "w", "c")} {
		b.tells(o, api.ErrNone)
	}
	b.tells(closes("w"), api.OK)
	b.tells(closes("w"), api.OK)
	b.tells(offs("ann"), api.OK)
	b.tells(offs("ann"), api.ErrOff)
}

func TestMake(t *testing.T) {
	b := made(t)
	b.tells(makes("w", "c"), api.OK)
	b.tells(makes("w", "c"), api.ErrThere)
	b.tells(makes("w", "d"), api.OK)
	b.tells(makes("v", "c"), api.OK)
	b.tells(makes("c", "w"), api.OK)
	b.tells(makes("w", "c"), api.ErrThere)
	if list, e := b.m.Members("w", "c"); len(list) != 0 || e != api.OK {
		t.Errorf("a new channel's members: %q, %d", list, e)
	}
	if n, e := b.m.Len("w", "c"); n != 0 || e != api.OK {
		t.Errorf("a new channel's posts: %d, %d", n, e)
	}
}

// TestMakeAgainLeavesAll: a channel that is there keeps its members and posts.
func TestMakeAgainLeavesAll(t *testing.T) {
	b := made(t, makes("w", "c"), joins("w", "c", "ann"), posts("w", "c", "ann", "hi"))
	b.tells(makes("w", "c"), api.ErrThere)
	b.tells(joins("w", "c", "ann"), api.ErrThere)
	if r := b.do(posts("w", "c", "ann", "ho")); r.At != 1 {
		t.Errorf("%v", r)
	}
}

// TestNamesAreNotPutTogether: which bytes are of the workspace and which of the channel is told apart.
func TestNamesAreNotPutTogether(t *testing.T) {
	b := made(t)
	for _, n := range [][2]string{{"a", "bc"}, {"ab", "c"}, {"a-b", "c"}, {"a", "b-c"}, {"bc", "a"}, {"abc", "abc"}, {"-", "--"}, {"--", "-"}} {
		b.tells(makes(n[0], n[1]), api.OK)
		b.tells(joins(n[0], n[1], "u"+n[0]), api.OK)
		b.all(posts(n[0], n[1], "u"+n[0], n[0]+"/"+n[1]))
	}
	b.same("ab", "a-b", "abc")
	b.tells(closes("a"), api.OK)
	b.same("a", "ab", "a-b", "abc")
}

func TestJoin(t *testing.T) {
	b := made(t, makes("w", "c"), makes("w", "d"), makes("v", "c"))
	b.tells(joins("w", "c", "ann"), api.OK)
	b.tells(joins("w", "c", "ann"), api.ErrThere)
	b.tells(joins("w", "c", "bob"), api.OK)
	b.tells(joins("w", "d", "ann"), api.OK)
	b.tells(joins("v", "c", "ann"), api.OK)
	b.tells(joins("v", "d", "ann"), api.ErrNone)
	b.tells(joins("w", "c", "an"), api.OK)
	b.tells(joins("w", "c", "ann-"), api.OK)
	b.tells(joins("w", "c", "w"), api.OK)
	b.tells(offs("bob"), api.OK)
	b.tells(joins("w", "c", "bob"), api.ErrOff)
	b.tells(joins("w", "d", "bob"), api.ErrOff)
	b.tells(joins("v", "c", "ann"), api.ErrThere)
}

func TestPost(t *testing.T) {
	b := made(t, makes("w", "c"), makes("w", "d"), joins("w", "c", "ann"), joins("w", "c", "bob"), joins("w", "d", "ann"))
	for i, c := range []struct {
		channel, user, text string
		at                  int
	}{{"c", "ann", "hi", 0}, {"c", "bob", "", 1}, {"c", "bob", "", 2}, {"d", "ann", "hi", 0}, {"c", "ann", "ä\n\x00", 3}, {"d", "ann", strings.Repeat("x", 1024), 1}, {"c", "ann", "hi", 4}} {
		if r := b.do(posts("w", c.channel, c.user, c.text)); !sameReply(r, api.Reply{At: c.at}) {
			t.Errorf("%d: %v", i, r)
		}
		b.same()
	}
	b.tells(posts("w", "d", "bob", "hi"), api.ErrMember)
	b.tells(posts("w", "c", "eve", "hi"), api.ErrMember)
	b.tells(posts("w", "c", "an", "hi"), api.ErrMember)
	b.tells(posts("v", "c", "ann", "hi"), api.ErrNone)
	b.tells(posts("w", "e", "ann", "hi"), api.ErrNone)
	b.tells(posts("w", "c", "ann", "\xff"), api.ErrArg)
	b.tells(posts("w", "c", "ann", strings.Repeat("x", 1025)), api.ErrArg)
}

// full are both models with a channel of MaxPosts posts by ann, of which bob is a member, too.
func full(t *testing.T) both {
	t.Helper()
	b := made(t, makes("w", "c"), joins("w", "c", "ann"), joins("w", "c", "bob"))
	for i := range 1024 {
		if r := b.do(posts("w", "c", "ann", strconv.Itoa(i))); !sameReply(r, api.Reply{At: i}) {
			t.Fatalf("post %d: %v", i, r)
		}
	}
	return b
}

func TestPostUpToMaxPosts(t *testing.T) {
	b := full(t)
	b.same()
	for range 2 {
		b.tells(posts("w", "c", "ann", "more"), api.ErrFull)
		b.tells(posts("w", "c", "bob", ""), api.ErrFull)
	}
	b.all(makes("w", "d"), joins("w", "d", "ann"), posts("w", "d", "ann", "there is room elsewhere"))
	b.all(moves("w", "c", "v", "c"))
	b.tells(posts("v", "c", "ann", "more"), api.ErrFull)
	b.all(makes("w", "c"), joins("w", "c", "ann"))
	if r := b.do(posts("w", "c", "ann", "first")); !sameReply(r, api.Reply{}) {
		t.Errorf("in a new one: %v", r)
	}
	b.same()
}

func TestRead(t *testing.T) {
	for _, count := range []int{0, 1, 2, 3, 63, 64, 65, 130, 1024} {
		b := made(t, makes("w", "c"), joins("w", "c", "ann"))
		var list []api.Post
		for i := range count {
			b.all(posts("w", "c", "ann", strconv.Itoa(i)))
			list = append(list, api.Post{User: "ann", Text: strconv.Itoa(i)})
		}
		for _, from := range []int{0, 1, 2, count - 65, count - 64, count - 63, count - 2, count - 1, count, count + 1, count + 64, 1024, 1 << 20, 1<<31 - 2, 1<<31 - 1} {
			for _, most := range []int{0, 1, 2, 3, 63, 64} {
				if from < 0 {
					continue
				}
				r := b.do(reads("w", "c", from, most))
				low := min(from, count)
				high := min(low+most, count)
				if !sameReply(r, api.Reply{At: high, Posts: list[low:high]}) {
					t.Errorf("of %d from %d at most %d: %v", count, from, most, r)
				}
			}
		}
		b.same()
	}
}

// TestReadOfWhomever: nobody needs to be a member to read, and nobody is named.
func TestReadOfWhomever(t *testing.T) {
	b := made(t, makes("w", "c"), joins("w", "c", "ann"), posts("w", "c", "ann", "hi"), offs("ann"))
	if r := b.do(reads("w", "c", 0, 1)); !sameReply(r, api.Reply{At: 1, Posts: []api.Post{{User: "ann", Text: "hi"}}}) {
		t.Errorf("%v", r)
	}
	o := reads("w", "c", 0, 1)
	o.User = "ann"
	b.tells(o, api.ErrArg)
	b.tells(reads("w", "d", 0, 1), api.ErrNone)
	b.tells(reads("v", "c", 0, 1), api.ErrNone)
	b.tells(reads("w", "c", -1, 1), api.ErrArg)
	b.tells(reads("w", "c", 0, 65), api.ErrArg)
}

// three are both models with the channels c and d of w and c of v, each with members and posts of its own.
func three(t *testing.T) both {
	t.Helper()
	return made(t, makes("w", "c"), makes("w", "d"), makes("v", "c"),
		joins("w", "c", "ann"), joins("w", "c", "bob"), joins("w", "d", "bob"), joins("v", "c", "ann"),
		posts("w", "c", "ann", "hi"), posts("w", "c", "bob", "ho"), posts("w", "d", "bob", "there"), posts("v", "c", "ann", "far"))
}

func TestMove(t *testing.T) {
	b := three(t)
	b.tells(moves("w", "c", "w", "c"), api.ErrThere)
	b.tells(moves("w", "c", "w", "d"), api.ErrThere)
	b.tells(moves("w", "c", "v", "c"), api.ErrThere)
	b.tells(moves("w", "c", "v", "d"), api.OK)
	b.gone("w", "c")
	b.tells(moves("w", "c", "v", "e"), api.ErrNone)
	if list, e := b.m.Members("v", "d"); !slices.Equal(list, []string{"ann", "bob"}) || e != api.OK {
		t.Errorf("%q, %d", list, e)
	}
	if r := b.do(posts("v", "d", "bob", "behind it")); r.At != 2 {
		t.Errorf("%v", r)
	}
	b.tells(posts("w", "c", "bob", "behind it"), api.ErrNone)
	b.tells(joins("v", "d", "ann"), api.ErrThere)
	b.tells(joins("v", "d", "eve"), api.OK)
	b.tells(moves("v", "d", "w", "c"), api.OK)
	b.gone("v", "d")
	if r := b.do(posts("w", "c", "eve", "back")); r.At != 3 {
		t.Errorf("%v", r)
	}
	b.same()
}

// TestMoveInAWorkspace: another name there, and its old one is free.
func TestMoveInAWorkspace(t *testing.T) {
	b := three(t)
	b.tells(moves("w", "c", "w", "e"), api.OK)
	b.tells(makes("w", "c"), api.OK)
	b.tells(joins("w", "c", "bob"), api.OK)
	if r := b.do(posts("w", "c", "bob", "new")); r.At != 0 {
		t.Errorf("%v", r)
	}
	b.tells(moves("w", "e", "w", "c"), api.ErrThere)
	b.tells(moves("w", "c", "w", "e"), api.ErrThere)
	b.same()
}

// TestMoveToAWorkspaceWithoutChannels: a workspace need not be made.
func TestMoveToAWorkspaceWithoutChannels(t *testing.T) {
	b := three(t)
	b.tells(moves("v", "c", "u", "c"), api.OK)
	b.same("u")
	if list := b.m.Channels("v"); len(list) != 0 {
		t.Errorf("%q", list)
	}
	b.tells(closes("u"), api.OK)
	b.gone("u", "c")
	b.gone("v", "c")
}

// TestMoveInARing: three channels get each other's names by a fourth one.
func TestMoveInARing(t *testing.T) {
	b := three(t)
	for range 3 {
		b.tells(moves("w", "c", "x", "x"), api.OK)
		b.tells(moves("w", "d", "w", "c"), api.OK)
		b.tells(moves("v", "c", "w", "d"), api.OK)
		b.tells(moves("x", "x", "v", "c"), api.OK)
	}
	if r := b.do(reads("w", "c", 0, 1)); !sameReply(r, api.Reply{At: 1, Posts: []api.Post{{User: "ann", Text: "hi"}}}) {
		t.Errorf("%v", r)
	}
}

func TestClose(t *testing.T) {
	b := three(t)
	b.tells(closes("u"), api.OK)
	b.tells(closes("c"), api.OK)
	b.tells(closes("w"), api.OK)
	b.gone("w", "c")
	b.gone("w", "d")
	b.same("w", "v")
	if len(b.m.Channels("w")) != 0 || len(b.m.Channels("v")) != 1 {
		t.Errorf("%q, %q", b.m.Channels("w"), b.m.Channels("v"))
	}
	for _, o := range []api.Op{joins("w", "c", "eve"), posts("w", "c", "ann", "hi"), reads("w", "c", 0, 64), moves("w", "d", "w", "e"), moves("w", "c", "v", "c")} {
		b.tells(o, api.ErrNone)
	}
	b.tells(closes("w"), api.OK)
	b.tells(makes("w", "c"), api.OK)
	b.tells(posts("w", "c", "ann", "hi"), api.ErrMember)
	b.tells(joins("w", "c", "ann"), api.OK)
	if r := b.do(posts("w", "c", "ann", "anew")); !sameReply(r, api.Reply{}) {
		t.Errorf("%v", r)
	}
	b.same()
}

// TestCloseLeavesWhoIsOff: for good is also behind a close.
func TestCloseLeavesWhoIsOff(t *testing.T) {
	b := three(t)
	b.tells(offs("ann"), api.OK)
	b.tells(closes("w"), api.OK)
	b.tells(makes("w", "c"), api.OK)
	b.tells(joins("w", "c", "ann"), api.ErrOff)
	b.tells(offs("ann"), api.ErrOff)
}

func TestOff(t *testing.T) {
	b := three(t)
	b.tells(offs("ann"), api.OK)
	for _, n := range [][2]string{{"w", "c"}, {"w", "d"}, {"v", "c"}} {
		if list, e := b.m.Members(n[0], n[1]); slices.Contains(list, "ann") || e != api.OK {
			t.Errorf("%q, %q: %q, %d", n[0], n[1], list, e)
		}
		b.tells(joins(n[0], n[1], "ann"), api.ErrOff)
		b.tells(posts(n[0], n[1], "ann", "hi"), api.ErrOff)
	}
	if list, _ := b.m.Members("w", "c"); !slices.Equal(list, []string{"bob"}) {
		t.Errorf("%q", list)
	}
	b.tells(offs("ann"), api.ErrOff)
	b.tells(moves("w", "c", "u", "c"), api.OK)
	b.tells(posts("u", "c", "ann", "hi"), api.ErrOff)
	b.tells(makes("w", "e"), api.OK)
	b.tells(joins("w", "e", "ann"), api.ErrOff)
	if r := b.do(posts("u", "c", "bob", "alone")); r.Err != api.OK || r.At != 2 {
		t.Errorf("%v", r)
	}
	b.same()
}

// TestOffOfOneWhoIsNotKnown: also a user of whom nothing was heard may be off, and another one whose name begins so is not.
func TestOffOfOneWhoIsNotKnown(t *testing.T) {
	b := three(t)
	b.tells(offs("eve"), api.OK)
	b.tells(offs("eve"), api.ErrOff)
	b.tells(joins("w", "c", "eve"), api.ErrOff)
	b.tells(joins("w", "c", "eve2"), api.OK)
	b.tells(joins("w", "c", "ev"), api.OK)
	b.tells(offs("w"), api.OK)
	b.tells(makes("w", "w"), api.OK)
	b.tells(joins("w", "c", "c"), api.OK)
}

// TestErrorsInTheirOrder: what several errors apply to. In w/c are MaxPosts posts; bob is a member, eve is none, off is off.
func TestErrorsInTheirOrder(t *testing.T) {
	b := full(t)
	b.all(makes("w", "d"), joins("w", "d", "bob"), offs("off"))
	badText := func(o api.Op) api.Op { return with(o, "Text", "\xff") }
	extra := func(o api.Op) api.Op { return with(o, "Most", 65) }
	for _, c := range []struct {
		what string
		o    api.Op
		e    api.Errno
	}{
		{"make: an argument, there", extra(makes("w", "c")), api.ErrArg},
		{"make: there", makes("w", "c"), api.ErrThere},
		{"join: an argument, none", extra(joins("v", "c", "bob")), api.ErrArg},
		{"join: an argument, off", extra(joins("w", "c", "off")), api.ErrArg},
		{"join: an argument, there", extra(joins("w", "c", "bob")), api.ErrArg},
		{"join: an argument, none, off", extra(joins("v", "c", "off")), api.ErrArg},
		{"join: none, off", joins("v", "c", "off"), api.ErrNone},
		{"join: none, elsewhere there", joins("v", "c", "bob"), api.ErrNone},
		{"join: off", joins("w", "c", "off"), api.ErrOff},
		{"join: there", joins("w", "c", "bob"), api.ErrThere},
		{"post: an argument, none", badText(posts("v", "c", "bob", "")), api.ErrArg},
		{"post: an argument, off, no member", badText(posts("w", "d", "off", "")), api.ErrArg},
		{"post: an argument, no member", badText(posts("w", "d", "eve", "")), api.ErrArg},
		{"post: an argument, full", badText(posts("w", "c", "bob", "")), api.ErrArg},
		{"post: an argument, off, no member, full", badText(posts("w", "c", "off", "")), api.ErrArg},
		{"post: none, off", posts("v", "c", "off", ""), api.ErrNone},
		{"post: none, no member", posts("v", "c", "eve", ""), api.ErrNone},
		{"post: off, no member", posts("w", "d", "off", ""), api.ErrOff},
		{"post: off, no member, full", posts("w", "c", "off", ""), api.ErrOff},
		{"post: no member", posts("w", "d", "eve", ""), api.ErrMember},
		{"post: no member, full", posts("w", "c", "eve", ""), api.ErrMember},
		{"post: full", posts("w", "c", "bob", ""), api.ErrFull},
		{"read: an argument, none", reads("v", "c", -1, 0), api.ErrArg},
		{"read: an argument at a channel that is there", reads("w", "c", 0, 65), api.ErrArg},
		{"read: none", reads("v", "c", 0, 64), api.ErrNone},
		{"move: an argument, none", extra(moves("v", "c", "v", "d")), api.ErrArg},
		{"move: an argument, there", extra(moves("w", "c", "w", "d")), api.ErrArg},
		{"move: an argument, none, there", extra(moves("v", "c", "w", "d")), api.ErrArg},
		{"move: none, there", moves("v", "c", "w", "c"), api.ErrNone},
		{"move: none, to itself", moves("v", "c", "v", "c"), api.ErrNone},
		{"move: there", moves("w", "c", "w", "d"), api.ErrThere},
		{"move: there, itself", moves("w", "c", "w", "c"), api.ErrThere},
		{"close: an argument", extra(closes("w")), api.ErrArg},
		{"close: a channel beside it", with(closes("w"), "Channel", "c"), api.ErrArg},
		{"off: an argument, off", extra(offs("off")), api.ErrArg},
		{"off: an argument", extra(offs("bob")), api.ErrArg},
		{"off: off", offs("off"), api.ErrOff},
	} {
		if r := b.do(c.o); !sameReply(r, api.Reply{Err: c.e}) {
			t.Errorf("%s: %v, not %d", c.what, r, c.e)
		}
	}
	b.same()
	b.tells(offs("bob"), api.OK)
	b.tells(offs("eve"), api.OK)
}

// TestNamesThatAreNoLabels: of these there is no channel.
func TestNamesThatAreNoLabels(t *testing.T) {
	b := three(t)
	for _, bad := range []string{"", "C", "W", "w/c", "c ", " w", "c\x00", "\xff", "w\n", strings.Repeat("c", 17), strings.Repeat("w", 1<<20)} {
		b.gone(bad, "c")
		b.gone("w", bad)
		b.gone(bad, bad)
		if list := b.m.Channels(bad); len(list) != 0 {
			t.Errorf("Channels(%q): %q", bad, list)
		}
	}
	b.gone("v", "d")
	b.gone("c", "w")
	b.gone("w", "cd")
}

// names are so many labels of all their bytes and lengths, each once.
func names(count int) []string {
	draw := draws(uint64(count))
	const bytes = "abcdefghijklmnopqrstuvwxyz0123456789-"
	var list []string
	for len(list) < count {
		var name strings.Builder
		for range 1 + draw(16) {
			name.WriteByte(bytes[draw(len(bytes))])
		}
		if !slices.Contains(list, name.String()) {
			list = append(list, name.String())
		}
	}
	return list
}

func TestNamesRiseByTheirBytes(t *testing.T) {
	few := []string{"b", "a", "-", "0", "z", "9", "aa", "a-", "a0", "--", "ab", "10", "2", "zz", "b-"}
	want := []string{"-", "--", "0", "10", "2", "9", "a", "a-", "a0", "aa", "ab", "b", "b-", "z", "zz"}
	b := made(t, makes("v", "members"))
	for _, name := range few {
		b.all(makes("w", name), joins("v", "members", name))
	}
	for range 20 { // a map's order is another one each time
		if list := b.m.Channels("w"); !slices.Equal(list, want) {
			t.Errorf("channels: %q, not %q", list, want)
		}
		if list, e := b.m.Members("v", "members"); !slices.Equal(list, want) || e != api.OK {
			t.Errorf("members: %q, %d, not %q", list, e, want)
		}
	}
	for _, name := range names(500) {
		if !slices.Contains(few, name) {
			b.all(makes("w", name), joins("v", "members", name))
		}
	}
	b.same()
}

// refuses asks that a model which New and Copy did not give answers nothing, whatever it is asked.
func refuses(t *testing.T, m *model.Model) {
	t.Helper()
	for range 2 {
		for _, o := range append(mayBe, api.Op{}, makes("W", "c"), reads("w", "c", math.MinInt, math.MaxInt), api.Op{Kind: 8}) {
			if r := m.Do(o); !sameReply(r, api.Reply{Err: api.ErrArg}) {
				t.Errorf("Do(%v): %v", o, r)
			}
		}
		for _, n := range [][2]string{{"w", "c"}, {"", ""}, {"W", "\xff"}} {
			if list := m.Channels(n[0]); len(list) != 0 {
				t.Errorf("Channels: %q", list)
			}
			if list, e := m.Members(n[0], n[1]); len(list) != 0 || e != api.ErrArg {
				t.Errorf("Members: %q, %d", list, e)
			}
			if count, e := m.Len(n[0], n[1]); count != 0 || e != api.ErrArg {
				t.Errorf("Len: %d, %d", count, e)
			}
		}
		if c := m.Copy(); c != nil {
			t.Errorf("Copy: %v", c)
		}
	}
}

func TestAModelThatNewAndCopyDidNotGive(t *testing.T) {
	refuses(t, nil)
	refuses(t, &model.Model{})
	refuses(t, new(model.Model))
	refuses(t, (*model.Model)(nil).Copy())
	refuses(t, new(model.Model).Copy())
}
