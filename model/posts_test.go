package model_test

import (
	"rookery/api"
	"slices"
	"strconv"
	"testing"
)

// anyOp is an op of few names, so that ops meet each other; some may not be.
func anyOp(draw func(int) int) api.Op {
	spaces, channels, users := []string{"w", "v", "w-1"}, []string{"c", "d", "e", "0"}, []string{"ann", "bob", "eve", "abe", "zoe", "w"}
	space, channel, user := spaces[draw(3)], channels[draw(4)], users[draw(6)]
	switch kind := draw(100); {
	case kind < 10:
		return makes(space, channel)
	case kind < 25:
		return joins(space, channel, user)
	case kind < 70:
		return posts(space, channel, user, strconv.Itoa(draw(1<<20)))
	case kind < 85:
		return reads(space, channel, draw(40), draw(65))
	case kind < 95:
		return moves(space, channel, spaces[draw(3)], channels[draw(4)])
	case kind < 96:
		return closes(space)
	case kind < 97:
		return offs(user + strconv.Itoa(draw(4)))
	case kind < 98 && draw(20) == 0:
		return offs(user)
	}
	return api.Op{Kind: draw(9), Space: space, Channel: channel, User: user, Most: draw(3)}
}

// TestAnyOps: ops in any order, held against a plain model, at times in a copy of it.
func TestAnyOps(t *testing.T) {
	met := map[[2]int]int{} // how often ops of a kind were answered an error
	for seed := range 60 {
		draw := draws(uint64(seed))
		b := made(t)
		for i := range 600 {
			o := anyOp(draw)
			met[[2]int{o.Kind, int(b.do(o).Err)}]++
			if i%20 == 0 {
				b.same("w-1")
			}
			if draw(100) == 0 {
				c := b.copy()
				c.do(anyOp(draw))
				if draw(2) == 0 {
					b = c
				}
			}
		}
		b.same("w-1")
		if t.Failed() {
			t.Fatalf("seed %d", seed)
		}
	}
	for _, c := range [][]int{
		{api.OpMake, int(api.OK), int(api.ErrArg), int(api.ErrThere)},
		{api.OpJoin, int(api.OK), int(api.ErrArg), int(api.ErrNone), int(api.ErrOff), int(api.ErrThere)},
		{api.OpPost, int(api.OK), int(api.ErrArg), int(api.ErrNone), int(api.ErrOff), int(api.ErrMember)},
		{api.OpRead, int(api.OK), int(api.ErrArg), int(api.ErrNone)},
		{api.OpMove, int(api.OK), int(api.ErrArg), int(api.ErrNone), int(api.ErrThere)},
		{api.OpClose, int(api.OK), int(api.ErrArg)},
		{api.OpOff, int(api.OK), int(api.ErrArg), int(api.ErrOff)},
	} {
		for _, e := range c[1:] {
			if met[[2]int{c[0], e}] < 5 {
				t.Errorf("kind %d was answered %d %d times", c[0], e, met[[2]int{c[0], e}])
			}
		}
	}
}

// TestPostsStay (Mo3): ops in any order; whoever posts takes note of the number that was told, of the channel wherever it goes, and then all channels are read in pages of any size.
func TestPostsStay(t *testing.T) {
	for seed := range 60 {
		draw := draws(uint64(1000 + seed))
		b := made(t)
		notes := map[[2]string][]api.Post{}
		for range 1500 {
			o := anyOp(draw)
			r := b.m.Do(o)
			b.p.do(o)
			if r.Err != api.OK {
				continue
			}
			key := [2]string{o.Space, o.Channel}
			switch o.Kind {
			case api.OpMake:
				notes[key] = nil
			case api.OpPost:
				if r.At != len(notes[key]) {
					t.Fatalf("seed %d: post %d is told %d", seed, len(notes[key]), r.At)
				}
				notes[key] = append(notes[key], api.Post{User: o.User, Text: o.Text})
			case api.OpMove:
				notes[[2]string{o.ToSpace, o.To}] = notes[key]
				delete(notes, key)
			case api.OpClose:
				for other := range notes {
					if other[0] == o.Space {
						delete(notes, other)
					}
				}
			}
			if draw(50) == 0 {
				pages(b, notes, draw)
			}
		}
		pages(b, notes, draw)
		if t.Failed() {
			t.Fatalf("seed %d", seed)
		}
	}
}

// pages reads all channels in pages of any size, and asks that each post is where its author was told.
func pages(b both, notes map[[2]string][]api.Post, draw func(int) int) {
	b.Helper()
	for key, want := range notes {
		var list []api.Post
		for len(list) < len(want) {
			most := 1 + draw(64)
			r := b.m.Do(reads(key[0], key[1], len(list), most))
			if r.Err != api.OK || r.At != min(len(list)+most, len(want)) || r.At != len(list)+len(r.Posts) {
				b.Fatalf("%q from %d at most %d: %v", key, len(list), most, r)
			}
			list = append(list, r.Posts...)
		}
		if !slices.Equal(list, want) {
			b.Errorf("%q: %v, not %v", key, list, want)
		}
	}
}

// TestEachPostIsWhereItsAuthorWasTold: of a channel of MaxPosts posts, which is moved and whose authors go off meanwhile, each post alone.
func TestEachPostIsWhereItsAuthorWasTold(t *testing.T) {
	b := made(t, makes("w", "c"))
	spaces := []string{"w", "v"}
	var list []api.Post
	for i := range 1024 {
		space, user := spaces[i/100%2], "u"+strconv.Itoa(i/64)
		if i%64 == 0 {
			b.all(joins(space, "c", user))
		}
		r := b.do(posts(space, "c", user, strconv.Itoa(i*i)))
		if !sameReply(r, api.Reply{At: i}) {
			t.Fatalf("post %d: %v", i, r)
		}
		list = append(list, api.Post{User: user, Text: strconv.Itoa(i * i)})
		if i%64 == 63 {
			b.all(offs(user))
		}
		if i%100 == 99 {
			b.all(moves(space, "c", spaces[(i/100+1)%2], "c"))
		}
	}
	for i, post := range list {
		if r := b.do(reads("w", "c", i, 1)); !sameReply(r, api.Reply{At: i + 1, Posts: []api.Post{post}}) {
			t.Errorf("post %d: %v, not %v", i, r, post)
		}
	}
	b.same()
}
