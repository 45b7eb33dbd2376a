package model_test

import (
	"rookery/api"
	"rookery/model"
	"runtime"
	"slices"
	"strconv"
	"strings"
	"testing"
)

func TestCopyOfAModelWithoutAnything(t *testing.T) {
	a := made(t)
	b := a.copy()
	b.tells(makes("w", "c"), api.OK)
	b.tells(offs("ann"), api.OK)
	a.gone("w", "c")
	a.tells(makes("w", "c"), api.OK)
	a.tells(joins("w", "c", "ann"), api.OK)
	b.same()
	b.tells(joins("w", "c", "ann"), api.ErrOff)
}

// TestCopyIsAsItsModelIs: channels, members, posts, and who is off.
func TestCopyIsAsItsModelIs(t *testing.T) {
	a := three(t)
	a.all(offs("eve"))
	b := a.copy()
	b.same()
	b.tells(joins("w", "c", "eve"), api.ErrOff)
	b.tells(offs("eve"), api.ErrOff)
	b.tells(joins("w", "c", "ann"), api.ErrThere)
	if r := b.do(posts("w", "c", "ann", "next")); r.At != 2 {
		t.Errorf("%v", r)
	}
}

// TestCopyBesideItsModel: each kind of op is done in one of both, and then in the other one.
func TestCopyBesideItsModel(t *testing.T) {
	for _, o := range []api.Op{
		makes("w", "e"), joins("w", "d", "ann"), posts("w", "c", "ann", "more"), reads("w", "c", 0, 64),
		moves("w", "c", "v", "d"), closes("w"), closes("v"), offs("ann"), offs("bob"), offs("eve"),
	} {
		for _, first := range []int{0, 1} {
			a := three(t)
			two := []both{a, a.copy()}
			one, other := two[first], two[1-first]
			if r := one.do(o); r.Err != api.OK {
				t.Errorf("Do(%v): %d", o, r.Err)
			}
			one.same()
			other.same()
			for _, next := range []api.Op{posts("w", "c", "ann", "other"), joins("w", "d", "ann"), joins("w", "c", "eve"), makes("w", "e"), reads("w", "c", 0, 64)} {
				other.do(next)
			}
			one.same()
			other.same()
			other.do(o)
			other.same()
			one.do(o)
			one.same()
			other.same()
		}
	}
}

// TestPostsOfCopies: channels of each length grow on in a model, in its copies and in a copy's copy, and none of them sees another one's posts.
func TestPostsOfCopies(t *testing.T) {
	a := made(t, makes("w", "c"), joins("w", "c", "ann"))
	for count := range 70 {
		all := []both{a, a.copy(), a.copy()}
		all = append(all, all[1].copy())
		for round := range 3 {
			for i, b := range all[1:] {
				b.all(posts("w", "c", "ann", strconv.Itoa(count)+" "+strconv.Itoa(round)+" "+strconv.Itoa(i)))
			}
		}
		a.all(posts("w", "c", "ann", strconv.Itoa(count)))
		for _, b := range all {
			b.same()
		}
	}
}

// TestCopiesOfCopies: a line of models, each a copy of the one ahead and one op further.
func TestCopiesOfCopies(t *testing.T) {
	draw := draws(3)
	line := []both{three(t)}
	for range 200 {
		next := line[len(line)-1].copy()
		next.do(anyOp(draw))
		line = append(line, next)
	}
	for _, b := range line {
		b.same()
	}
	for _, b := range line {
		b.do(anyOp(draw))
	}
	for _, b := range line {
		b.same()
	}
}

// TestAnswersAreNewMemory: what is written to an answer is seen nowhere.
func TestAnswersAreNewMemory(t *testing.T) {
	b := three(t)
	c := b.copy()
	for range 3 {
		for _, space := range []string{"w", "v"} {
			list := b.m.Channels(space)
			clear(append(list, "more")[:len(list)])
			clear(list[:cap(list)])
		}
		list, _ := b.m.Members("w", "c")
		clear(list[:cap(list)])
		r := b.m.Do(reads("w", "c", 0, 64))
		clear(r.Posts[:cap(r.Posts)])
		r = b.m.Do(reads("w", "c", 0, 1))
		r.Posts = append(r.Posts, api.Post{User: "eve", Text: "written behind it"})
		r.Posts[0] = api.Post{User: "eve"}
		clear(r.Posts[:cap(r.Posts)])
		b.same()
		c.same()
		b.all(posts("w", "c", "ann", "more"))
	}
}

// TestAnswersStay: an answer stays as it was, whatever is done behind it.
func TestAnswersStay(t *testing.T) {
	b := three(t)
	channels := b.m.Channels("w")
	members, _ := b.m.Members("w", "c")
	page := b.m.Do(reads("w", "c", 0, 1)).Posts
	rest := b.m.Do(reads("w", "c", 1, 64)).Posts
	b.all(posts("w", "c", "ann", "more"), offs("ann"), makes("w", "a"), joins("w", "c", "abe"), moves("w", "c", "u", "c"), closes("w"), closes("u"))
	if !slices.Equal(channels, []string{"c", "d"}) || !slices.Equal(members, []string{"ann", "bob"}) {
		t.Errorf("%q, %q", channels, members)
	}
	if !slices.Equal(page, []api.Post{{User: "ann", Text: "hi"}}) || !slices.Equal(rest, []api.Post{{User: "bob", Text: "ho"}}) {
		t.Errorf("%v, %v", page, rest)
	}
}

// TestModelsAreApart: what is done with one model is not seen in another one.
func TestModelsAreApart(t *testing.T) {
	a, b := three(t), made(t)
	b.same()
	b.gone("w", "c")
	b.all(makes("w", "c"), offs("ann"))
	a.same()
	if r := a.do(posts("w", "c", "ann", "still on")); r.Err != api.OK || r.At != 2 {
		t.Errorf("%v", r)
	}
	b.same()
}

// held is how many bytes of memory are in use.
func held() int {
	runtime.GC()
	runtime.GC()
	var m runtime.MemStats
	runtime.ReadMemStats(&m)
	return int(m.HeapAlloc)
}

// TestWhatIsHandedInIsNotKept: names and texts that are pieces of long texts don't keep these, whichever field they stand in.
func TestWhatIsHandedInIsNotKept(t *testing.T) {
	for what, ops := range map[string]func(own, piece string) []api.Op{
		"make, Space":   func(_, piece string) []api.Op { return []api.Op{makes(piece, "c")} },
		"make, Channel": func(_, piece string) []api.Op { return []api.Op{makes("w", piece)} },
		"join": func(own, piece string) []api.Op {
			return []api.Op{makes("w", own), joins("w", own, piece)}
		},
		"post, User": func(own, piece string) []api.Op {
			return []api.Op{makes("w", own), joins("w", own, own), posts("w", own, piece, "hi")}
		},
		"post, Text": func(own, piece string) []api.Op {
			return []api.Op{makes("w", own), joins("w", own, own), posts("w", own, own, piece)}
		},
		"move, ToSpace": func(own, piece string) []api.Op {
			return []api.Op{makes("w", own), moves("w", own, piece, "c")}
		},
		"move, To": func(own, piece string) []api.Op {
			return []api.Op{makes("w", own), moves("w", own, "v", piece)}
		},
		"off": func(_, piece string) []api.Op { return []api.Op{offs(piece)} },
	} {
		m := model.New()
		before := held()
		for i := range 20 {
			own := strconv.Itoa(100 + i)
			long := strings.Repeat("x", 1<<20) + own
			for _, o := range ops(own, long[1<<20:]) {
				if r := m.Do(o); r.Err != api.OK {
					t.Fatalf("%v: %d", o, r.Err)
				}
			}
		}
		if now := held(); now > before+1<<22 {
			t.Errorf("%s: %d bytes more are held", what, now-before)
		}
		runtime.KeepAlive(m)
	}
}

// TestWhatIsGoneIsNotKept: posts of channels that are gone.
func TestWhatIsGoneIsNotKept(t *testing.T) {
	m := model.New()
	before := held()
	for range 60 {
		m.Do(makes("w", "c"))
		m.Do(joins("w", "c", "ann"))
		for i := range 1024 {
			m.Do(posts("w", "c", "ann", strings.Repeat(string(rune('a'+i%26)), 1000)))
		}
		m.Do(moves("w", "c", "v", "c"))
		m.Do(closes("v"))
	}
	if now := held(); now > before+1<<23 {
		t.Errorf("%d bytes more are held", now-before)
	}
	runtime.KeepAlive(m)
}
