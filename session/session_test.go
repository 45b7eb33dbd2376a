package session_test

import (
	"math"
	"rookery/api"
	"rookery/session"
	"slices"
	"testing"
)

// TestTheExample is the chapter's: Put 5/1, Put 5/3.
func TestTheExample(t *testing.T) {
	b := made(t)
	b.puts(of(5, 1), page("a", 1), api.OK)
	b.puts(of(5, 3), page("b", 2), api.OK)
	b.finds(of(5, 1), api.Reply{}, api.ErrOld)
	b.finds(of(5, 2), api.Reply{}, api.ErrOld)
	b.finds(of(5, 3), page("b", 2), api.OK)
	b.finds(of(5, 4), api.Reply{}, api.ErrNone)
	b.ids(of(5, 3))
}

func TestATableWithoutSessions(t *testing.T) {
	b := made(t)
	b.ids()
	for _, id := range []api.Id{of(0, 1), of(1, 1), of(top, 1), of(0, top), of(top, top)} {
		b.finds(id, api.Reply{}, api.ErrNone)
	}
	b.ids()
}

// edges are numbers at the ends of what may be, and far out.
var edges = append([]int{0, 1, 2, top - 1, top}, beyond...)

func errIf(refused bool) api.Errno {
	if refused {
		return api.ErrArg
	}
	return api.OK
}

// TestIdsThatMayBe: each session with each seq, one that may not be alone and both at once.
func TestIdsThatMayBe(t *testing.T) {
	for _, who := range edges {
		for _, seq := range edges {
			id := of(who, seq)
			refused := who < 0 || who > 1<<31-1 || seq < 1 || seq > 1<<31-1
			b := made(t)
			if refused {
				b.finds(id, api.Reply{}, api.ErrArg)
			} else {
				b.finds(id, api.Reply{}, api.ErrNone)
			}
			b.puts(id, page("a", 3), errIf(refused))
			if refused {
				b.finds(id, api.Reply{}, api.ErrArg)
				b.ids()
			} else {
				b.finds(id, page("a", 3), api.OK)
				b.ids(id)
			}
		}
	}
}

// TestIdsThatMayNotBeInATableWithSessions: they are not taken for others that are there.
func TestIdsThatMayNotBeInATableWithSessions(t *testing.T) {
	b := made(t, of(0, 1), of(1, top), of(top, 1), of(top-1, top))
	for _, who := range []int{-1, 0, 1, top, 1 << 31, 1<<32 + 1, math.MinInt, math.MaxInt} {
		for _, seq := range []int{-1, 0, 1, top, 1 << 31, 1<<32 + 1, math.MinInt, math.MaxInt} {
			if who < 0 || who > top || seq < 1 || seq > top {
				b.finds(of(who, seq), api.Reply{}, api.ErrArg)
				b.puts(of(who, seq), at(9), api.ErrArg)
			}
		}
	}
	b.ids(of(0, 1), of(1, top), of(top-1, top), of(top, 1))
}

func TestFindAboveAtAndBelow(t *testing.T) {
	for _, last := range []int{1, 2, 7, 1 << 20, top - 1, top} {
		b := made(t)
		b.puts(of(5, last), page("x", 2), api.OK)
		for _, seq := range []int{1, 2, 3, 6, 7, 8, 1<<20 - 1, 1 << 20, 1<<20 + 1, top - 1, top} {
			switch {
			case seq < last:
				b.finds(of(5, seq), api.Reply{}, api.ErrOld)
			case seq > last:
				b.finds(of(5, seq), api.Reply{}, api.ErrNone)
			default:
				b.finds(of(5, seq), page("x", 2), api.OK)
			}
			b.finds(of(4, seq), api.Reply{}, api.ErrNone)
			b.finds(of(6, seq), api.Reply{}, api.ErrNone)
		}
		b.ids(of(5, last)) // what was asked for is not there since then
	}
}

// TestPutOfTheSameOfALesserAndOfAGreaterSeq: only the greater one takes the place of what was there.
func TestPutOfTheSameOfALesserAndOfAGreaterSeq(t *testing.T) {
	for _, was := range []int{1, 2, 7, top - 1, top} {
		for _, seq := range []int{1, 2, 3, 6, 7, 8, top - 1, top} {
			b := made(t)
			b.puts(of(5, was), page("old", 2), api.OK)
			if seq > was {
				b.puts(of(5, seq), page("new", 1), api.OK)
				b.finds(of(5, seq), page("new", 1), api.OK)
				b.finds(of(5, was), api.Reply{}, api.ErrOld)
				b.ids(of(5, seq))
			} else {
				b.puts(of(5, seq), page("new", 1), api.ErrOld)
				b.finds(of(5, was), page("old", 2), api.OK)
				b.ids(of(5, was))
			}
		}
	}
}

// TestPutOfTheSameTwice: also the same reply is refused the second time.
func TestPutOfTheSameTwice(t *testing.T) {
	b := made(t)
	b.puts(of(0, 1), page("a", 1), api.OK)
	b.puts(of(0, 1), page("a", 1), api.ErrOld)
	b.puts(of(0, 2), page("a", 1), api.OK)
	b.puts(of(0, 1), page("a", 1), api.ErrOld)
	b.puts(of(1, 1), page("a", 1), api.OK) // another session's numbers are its own
	b.ids(of(0, 2), of(1, 1))
}

// TestAnyReplyIsFoundAsItWasPut: whatever stands in its fields, numbers and texts that no layer answers too.
func TestAnyReplyIsFoundAsItWasPut(t *testing.T) {
	b := made(t)
	seq := 0
	for _, e := range []api.Errno{api.OK, api.ErrArg, api.ErrOff, api.ErrOld, -1, 1 << 40, math.MinInt, math.MaxInt} {
		for _, n := range []int{0, 1, -1, 63, 1 << 31, math.MinInt, math.MaxInt} {
			for _, posts := range [][]api.Post{nil, {}, {{}}, {{User: "ann", Text: "hi"}}, {{}, {Text: "\xff\x00"}, {User: "Not A Label, and long"}}, page("p", 64).Posts} {
				seq++
				r := api.Reply{Err: e, At: n, Posts: posts}
				b.puts(of(5, seq), r, api.OK)
				b.finds(of(5, seq), r, api.OK)
				b.finds(of(5, seq), r, api.OK)
			}
		}
	}
}

// TestPagesUpToMaxPage: 64 posts, and one more.
func TestPagesUpToMaxPage(t *testing.T) {
	for count := range 70 {
		b := made(t, of(5, 1))
		b.puts(of(5, 2), page("m", count), errIf(count > 64))
		b.puts(of(6, 2), page("n", count), errIf(count > 64))
		if count > 64 {
			b.finds(of(5, 1), at(1), api.OK)
			b.finds(of(5, 2), api.Reply{}, api.ErrNone)
			b.ids(of(5, 1))
		} else {
			b.finds(of(5, 2), page("m", count), api.OK)
			b.finds(of(6, 2), page("n", count), api.OK)
			b.ids(of(5, 2), of(6, 2))
		}
	}
	b := made(t)
	b.puts(of(5, 1), api.Reply{Posts: make([]api.Post, 1<<20)}, api.ErrArg)
	b.puts(of(5, 1), api.Reply{Posts: make([]api.Post, 64, 1<<20)}, api.OK)
}

// TestErrorsInTheirOrder: what several errors apply to, in a table of 64 sessions.
func TestErrorsInTheirOrder(t *testing.T) {
	for _, c := range []struct {
		what  string
		id    api.Id
		posts int
		e     api.Errno
	}{
		{"a page, an id that may be", of(100, 6), 64, api.OK},
		{"too long a page", of(100, 6), 65, api.ErrArg},
		{"too long a page, and a session that may not be", of(-1, 6), 65, api.ErrArg},
		{"too long a page, and a seq that may not be", of(100, 0), 65, api.ErrArg},
		{"too long a page, and an id that may not be", of(1<<31, 1<<31), 65, api.ErrArg},
		{"too long a page, and the same seq", of(100, 5), 65, api.ErrArg},
		{"too long a page, and an old seq", of(100, 4), 65, api.ErrArg},
		{"too long a page, and another session", of(99, 1), 65, api.ErrArg},
		{"a page, and a session that may not be", of(-1, 6), 64, api.ErrArg},
		{"a page, and a seq that may not be", of(100, 0), 64, api.ErrArg},
		{"a seq that may not be and is old", of(100, -1), 0, api.ErrArg},
		{"another session that may not be", of(1<<31, 1), 0, api.ErrArg},
		{"another session, with a seq that may not be", of(99, 1<<31), 0, api.ErrArg},
		{"a page, and the same seq", of(100, 5), 64, api.ErrOld},
		{"a page, and an old seq", of(163, 1), 64, api.ErrOld},
		{"a page, and another session", of(99, 1), 64, api.ErrFull},
		{"another session", of(164, top), 0, api.ErrFull},
	} {
		b := full(t)
		if e := b.put(c.id, page("e", c.posts)); e != c.e {
			t.Errorf("%s: %d, not %d", c.what, e, c.e)
		}
		b.same(c.id)
	}
}

// TestSixtyFourSessions: they may go on, and no other one may come.
func TestSixtyFourSessions(t *testing.T) {
	b := made(t)
	for i := range 64 {
		b.puts(of(i*1000, 5), page("s", i), api.OK)
		if n := b.t.Len(); n != i+1 {
			t.Errorf("%d sessions, not %d", n, i+1)
		}
	}
	for range 2 {
		for _, who := range []int{1, 999, 63001, 64000, top} {
			b.puts(of(who, 1), at(1), api.ErrFull)
			b.puts(of(who, top), at(1), api.ErrFull)
			b.finds(of(who, 1), api.Reply{}, api.ErrNone)
		}
		for i := range 64 {
			b.puts(of(i*1000, 5), at(1), api.ErrOld)
			b.puts(of(i*1000, 1), at(1), api.ErrOld)
			b.finds(of(i*1000, 4), api.Reply{}, api.ErrOld)
			b.finds(of(i*1000, 5), page("s", i), api.OK)
			b.finds(of(i*1000, 6), api.Reply{}, api.ErrNone)
		}
	}
	for i := range 64 {
		b.puts(of(i*1000, 6), page("t", i), api.OK)
		b.puts(of(i*1000+1, 6), at(1), api.ErrFull)
		b.finds(of(i*1000, 6), page("t", i), api.OK)
	}
	if n := b.t.Len(); n != 64 {
		t.Errorf("%d sessions", n)
	}
}

// TestIdsRise: behind puts of the same sessions in any order.
func TestIdsRise(t *testing.T) {
	sessions := []int{0, 1, 2, 9, 10, 11, 99, 100, 255, 256, 1 << 16, 1 << 30, top - 1, top}
	var want []api.Id
	for i, who := range sessions {
		want = append(want, of(who, 100-i))
	}
	for seed := range uint64(100) {
		draw := draws(seed)
		order := slices.Clone(want)
		for i := range order {
			j := i + draw(len(order)-i)
			order[i], order[j] = order[j], order[i]
		}
		b := made(t)
		for _, id := range order {
			if draw(2) == 0 { // what was asked ahead of the last one is not told
				b.puts(of(id.Session, 1+draw(50)), at(0), api.OK)
			}
		}
		for _, id := range order {
			b.puts(id, at(id.Seq), api.OK)
		}
		b.ids(want...)
	}
}

func TestIdsAreNewMemory(t *testing.T) {
	b := made(t, of(5, 1), of(2, 4), of(9, 9))
	for range 3 {
		list := b.t.Ids()
		clear(list[:cap(list)])
		_ = append(list[:1], of(7, 7))
		b.ids(of(2, 4), of(5, 1), of(9, 9))
	}
	list := b.t.Ids()
	b.puts(of(1, 1), at(1), api.OK)
	b.puts(of(2, 5), at(1), api.OK)
	if !slices.Equal(list, []api.Id{of(2, 4), of(5, 1), of(9, 9)}) {
		t.Errorf("Ids became %v", list)
	}
}

// anyReply is a reply that is drawn, seldom one of too many posts.
func anyReply(draw func(int) int) api.Reply {
	r := page(string(rune('a'+draw(26))), []int{0, 0, 0, 1, 2, 5, 63, 64, 65}[draw(9)])
	r.Err, r.At = api.Errno(draw(3)), draw(1000)
	return r
}

// anyId is an id of one of so many sessions, seldom one that may not be.
func anyId(draw func(int) int, sessions int) api.Id {
	if draw(30) == 0 {
		return of(edges[draw(len(edges))], edges[draw(len(edges))])
	}
	return of(draw(sessions), draw(60))
}

// TestATableIsAPlainListWhateverIsPut: all calls, behind any puts, of few sessions and of more than there may be.
func TestATableIsAPlainListWhateverIsPut(t *testing.T) {
	told := map[api.Errno]int{}
	for seed := range uint64(40) {
		draw := draws(seed)
		b := made(t)
		sessions := []int{1, 3, 20, 64, 65, 100, 1000}[draw(7)]
		for range 300 {
			told[b.put(anyId(draw, sessions), anyReply(draw))]++
			b.find(anyId(draw, sessions))
			if draw(10) == 0 {
				b.same(anyId(draw, sessions))
			}
			if draw(50) == 0 {
				b = b.copy()
			}
		}
		b.same()
	}
	for _, e := range []api.Errno{api.OK, api.ErrArg, api.ErrOld, api.ErrFull} {
		if told[e] < 100 {
			t.Errorf("%d of all puts were answered %d", told[e], e)
		}
	}
}

// TestWhatWasPutLastIsFound is Se2: each session asks one thing behind the other, among others that do too; what was put last is found as it was put, however often, till something later is.
func TestWhatWasPutLastIsFound(t *testing.T) {
	draw := draws(77)
	table := session.New()
	var seqs [64]int
	var replies [64]api.Reply
	for range 3000 {
		who := draw(64)
		if draw(2) == 0 {
			seqs[who] += 1 + draw(3)
			replies[who] = page(string(rune('a'+draw(26))), draw(65))
			if e := table.Put(of(who, seqs[who]), cloned(replies[who])); e != api.OK {
				t.Fatalf("Put(%d/%d): %d", who, seqs[who], e)
			}
		} else if seqs[who] > 0 { // asked again, it is refused, and what was put stays
			table.Put(of(who, 1+draw(seqs[who])), page("again", draw(65)))
		}
		for _, who := range []int{who, draw(64)} {
			if seqs[who] == 0 {
				continue
			}
			if r, e := table.Find(of(who, seqs[who])); e != api.OK || !sameReply(r, replies[who]) {
				t.Fatalf("Find(%d/%d): %v, %d, not %v", who, seqs[who], r, e, replies[who])
			}
		}
	}
}

// refuses asks that a table which New and Copy did not give answers nothing, whatever it is asked.
func refuses(t *testing.T, table *session.Table) {
	t.Helper()
	for range 2 {
		for _, id := range []api.Id{{}, of(5, 1), of(0, 1), of(top, top), of(-1, 1), of(5, 0), of(1<<31, 1<<31)} {
			for _, count := range []int{0, 1, 64, 65} {
				if e := table.Put(id, page("z", count)); e != api.ErrArg {
					t.Errorf("Put(%v) of %d posts: %d", id, count, e)
				}
			}
			if r, e := table.Find(id); e != api.ErrArg || !sameReply(r, api.Reply{}) {
				t.Errorf("Find(%v): %v, %d", id, r, e)
			}
		}
		if n, list := table.Len(), table.Ids(); n != 0 || len(list) != 0 {
			t.Errorf("Len: %d, Ids: %v", n, list)
		}
		if other := table.Copy(); other != nil {
			t.Errorf("Copy: %v", other)
		}
	}
}

func TestATableThatNewAndCopyDidNotGive(t *testing.T) {
	refuses(t, nil)
	refuses(t, &session.Table{})
	refuses(t, new(session.Table))
	refuses(t, (*session.Table)(nil).Copy())
	refuses(t, new(session.Table).Copy())
}
