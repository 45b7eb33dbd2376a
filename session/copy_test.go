package session_test

import (
	"rookery/api"
	"rookery/session"
	"runtime"
	"slices"
	"strings"
	"testing"
)

func TestCopyOfATableWithoutSessions(t *testing.T) {
	a := made(t)
	b := a.copy()
	b.ids()
	b.puts(of(5, 1), at(1), api.OK)
	a.ids()
	a.puts(of(6, 1), at(2), api.OK)
	b.ids(of(5, 1))
	a.ids(of(6, 1))
}

func TestCopyIsAsItsTableIs(t *testing.T) {
	a := made(t, of(7, 3), of(2, 9), of(5, 1))
	a.puts(of(5, 2), page("a", 64), api.OK)
	b := a.copy()
	b.ids(of(2, 9), of(5, 2), of(7, 3))
	b.finds(of(5, 2), page("a", 64), api.OK)
	b.finds(of(5, 1), api.Reply{}, api.ErrOld)
	b.same()
	f := full(t).copy()
	f.puts(of(1, 1), at(1), api.ErrFull)
	f.puts(of(100, 6), at(1), api.OK)
	f.puts(of(101, 5), at(1), api.ErrOld)
}

// TestCopyBesideItsTable: puts in either of the two, of the same session, of another one and of one that comes, and then in the other one.
func TestCopyBesideItsTable(t *testing.T) {
	for _, id := range []api.Id{of(5, 4), of(5, top), of(2, 10), of(1, 1), of(0, top), of(top, 1)} {
		for _, first := range []int{0, 1} {
			a := made(t, of(5, 3), of(2, 9))
			a.puts(of(5, 3), at(0), api.ErrOld)
			two := []both{a, a.copy()}
			one, other := two[first], two[1-first]
			one.puts(id, page("one", 3), api.OK)
			other.ids(of(2, 9), of(5, 3))
			other.finds(id, api.Reply{}, api.ErrNone)
			other.finds(of(5, 3), at(3), api.OK)
			other.puts(id, page("other", 2), api.OK)
			one.finds(id, page("one", 3), api.OK)
			other.finds(id, page("other", 2), api.OK)
			one.same()
			other.same()
		}
	}
}

// TestCopyOfAFullTable: one of the two is full alone.
func TestCopyOfAFullTable(t *testing.T) {
	a := made(t)
	for i := range 63 {
		a.puts(of(i, 1), at(i), api.OK)
	}
	b := a.copy()
	b.puts(of(500, 1), at(1), api.OK)
	b.puts(of(501, 1), at(1), api.ErrFull)
	a.puts(of(501, 1), at(1), api.OK)
	a.puts(of(500, 1), at(1), api.ErrFull)
	b.same()
	a.same()
}

// TestCopiesOfCopies: a line of tables, each a copy of the one ahead and some puts further.
func TestCopiesOfCopies(t *testing.T) {
	draw := draws(3)
	line := []both{made(t, of(5, 1))}
	for range 60 {
		next := line[len(line)-1].copy()
		for range 4 {
			next.put(anyId(draw, 70), anyReply(draw))
		}
		line = append(line, next)
	}
	for _, b := range line {
		b.same()
		b.put(anyId(draw, 70), anyReply(draw))
	}
	for _, b := range line {
		b.same()
	}
}

func TestTablesAreApart(t *testing.T) {
	a, b := made(t, of(5, 1)), made(t)
	b.ids()
	b.puts(of(5, 1), at(7), api.OK)
	a.finds(of(5, 1), at(1), api.OK)
	a.puts(of(6, 1), at(7), api.OK)
	b.ids(of(5, 1))
}

// spoil writes over all posts of a list, and over the room behind it.
func spoil(posts []api.Post) {
	for i := range posts[:cap(posts)] {
		posts[:cap(posts)][i] = api.Post{User: "spoilt", Text: "spoilt"}
	}
}

// TestPostsThatAreHandedInAreNotKept: what the caller writes to them behind Put is not found, in the table or in its copies.
func TestPostsThatAreHandedInAreNotKept(t *testing.T) {
	for _, count := range []int{1, 2, 63, 64} {
		b := made(t)
		mine := page("a", count)
		b.puts(of(5, 1), mine, api.OK)
		early := b.copy()
		spoil(mine.Posts)
		late := b.copy()
		for _, x := range []both{b, early, late} {
			x.finds(of(5, 1), page("a", count), api.OK)
			x.finds(of(5, 1), page("a", count), api.OK)
		}
		mine = page("b", count)
		b.puts(of(5, 2), mine, api.OK)
		_ = append(mine.Posts[:0], api.Post{User: "eve"})
		b.finds(of(5, 2), page("b", count), api.OK)
	}
}

// TestPostsThatAreHandedOutAreNewMemory: what the caller writes to them behind Find is not found, in the table or in its copies.
func TestPostsThatAreHandedOutAreNewMemory(t *testing.T) {
	for _, count := range []int{1, 2, 63, 64} {
		b := made(t)
		b.puts(of(5, 1), page("a", count), api.OK)
		c := b.copy()
		for range 3 {
			for _, x := range []both{b, c} {
				first, _ := x.find(of(5, 1))
				second, _ := x.find(of(5, 1))
				spoil(first.Posts)
				if !sameReply(second, page("a", count)) {
					t.Errorf("what was found became %v", second)
				}
				_ = append(second.Posts[:0], api.Post{User: "eve"})
				_ = append(second.Posts, api.Post{User: "eve"})
				b.finds(of(5, 1), page("a", count), api.OK)
				c.finds(of(5, 1), page("a", count), api.OK)
			}
		}
	}
}

// TestWhatWasFoundMayBePutAgain: a reply that one session was answered is put by another one, and spoilt then.
func TestWhatWasFoundMayBePutAgain(t *testing.T) {
	b := made(t)
	b.puts(of(5, 1), page("a", 9), api.OK)
	r, _ := b.find(of(5, 1))
	b.puts(of(6, 1), r, api.OK)
	b.puts(of(5, 2), r, api.OK)
	spoil(r.Posts)
	b.finds(of(6, 1), page("a", 9), api.OK)
	b.finds(of(5, 2), page("a", 9), api.OK)
}

// TestWhatWasFoundStays: an answer stays as it was, whatever is put behind it.
func TestWhatWasFoundStays(t *testing.T) {
	b := made(t)
	b.puts(of(5, 1), page("a", 9), api.OK)
	r, _ := b.find(of(5, 1))
	b.puts(of(5, 2), page("b", 9), api.OK)
	b.puts(of(6, 1), page("c", 64), api.OK)
	if !sameReply(r, page("a", 9)) {
		t.Errorf("what was found became %v", r)
	}
}

// TestPutDoesNotTouchWhatIsHandedIn: neither the posts nor the room behind them, whether it is refused or not.
func TestPutDoesNotTouchWhatIsHandedIn(t *testing.T) {
	for _, count := range []int{0, 1, 63, 64, 65, 80} {
		for _, id := range []api.Id{of(100, 6), of(100, 5), of(1, 1), of(-1, 0)} {
			room := page("a", 90).Posts
			was := slices.Clone(room)
			b := full(t)
			b.put(id, api.Reply{Posts: room[:count]})
			b.put(id, api.Reply{Posts: room[:count:count]})
			b.same(id)
			if !slices.Equal(room, was) {
				t.Errorf("Put(%v) of %d posts wrote to them", id, count)
			}
		}
	}
}

// held is how many bytes of memory are in use.
func held() int {
	runtime.GC()
	runtime.GC()
	var m runtime.MemStats
	runtime.ReadMemStats(&m)
	return int(m.HeapAlloc)
}

// TestWhatIsHandedInIsNotHeld: posts that are pieces of long texts and of long lists don't hold these.
func TestWhatIsHandedInIsNotHeld(t *testing.T) {
	long := func() string { return (strings.Repeat("x", 1<<20) + "ann")[1<<20:] }
	for what, reply := range map[string]func() api.Reply{
		"a user":   func() api.Reply { return api.Reply{Posts: []api.Post{{User: long(), Text: "hi"}}} },
		"a text":   func() api.Reply { return api.Reply{Posts: []api.Post{{User: "ann", Text: long()}}} },
		"a list":   func() api.Reply { return api.Reply{Posts: make([]api.Post, 1<<15)[:1]} },
		"no posts": func() api.Reply { return api.Reply{Posts: make([]api.Post, 1<<15)[:0]} },
	} {
		table := session.New()
		before := held()
		for i := range 20 {
			if e := table.Put(of(i, 1), reply()); e != api.OK {
				t.Fatalf("%s: %d", what, e)
			}
		}
		if now := held(); now > before+1<<22 {
			t.Errorf("%s: %d bytes more are held", what, now-before)
		}
		runtime.KeepAlive(table)
	}
}

// TestOnlyTheLastReplyIsHeld: those ahead of it are gone, and so are ones that were refused.
func TestOnlyTheLastReplyIsHeld(t *testing.T) {
	table := session.New()
	before := held()
	for i := range 2000 {
		r := api.Reply{Posts: make([]api.Post, 64)}
		r.Posts[63].Text = strings.Repeat("x", 1<<14)
		if e := table.Put(of(5, 2+i), r); e != api.OK {
			t.Fatal(e)
		}
		table.Put(of(5, 1), r)
		table.Find(of(5, 2+i))
	}
	if now := held(); now > before+1<<22 {
		t.Errorf("%d bytes more are held", now-before)
	}
	runtime.KeepAlive(table)
}
