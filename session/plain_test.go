package session_test

import (
	"math"
	"rookery/api"
	"rookery/session"
	"slices"
	"testing"
)

const top = 1<<31 - 1 // the greatest session, and the greatest seq

// beyond are numbers far out.
var beyond = []int{math.MinInt, math.MinInt + 1, -1 << 32, -1 << 31, -2, -1, 1 << 31, 1<<31 + 1, 1 << 32, 1<<32 + 1, 1 << 62, math.MaxInt - 1, math.MaxInt}

// draws is a row of numbers below others, the same one for each seed.
func draws(seed uint64) func(int) int {
	return func(below int) int {
		seed = seed*6364136223846793005 + 1442695040888963407
		return int((seed >> 33) % uint64(below))
	}
}

func of(session, seq int) api.Id { return api.Id{Session: session, Seq: seq} }

// at is a reply that is told from others by a number.
func at(n int) api.Reply { return api.Reply{At: n} }

// page is a reply of so many posts, each one told from all others of another mark.
func page(mark string, count int) api.Reply {
	r := api.Reply{At: count}
	for i := range count {
		r.Posts = append(r.Posts, api.Post{User: mark + string(rune('A'+i)), Text: "text " + mark + string(rune('A'+i))})
	}
	return r
}

func sameReply(a, b api.Reply) bool {
	return a.Err == b.Err && a.At == b.At && slices.Equal(a.Posts, b.Posts)
}

// cloned is a reply with posts of its own.
func cloned(r api.Reply) api.Reply {
	r.Posts = slices.Clone(r.Posts)
	return r
}

// note is an id and what it was answered.
type note struct {
	id    api.Id
	reply api.Reply
}

// plain is a table by the chapter's words: a list of sessions, the one that came first ahead, which is gone over whenever something is asked.
type plain struct{ list []note }

func (p *plain) place(session int) int {
	return slices.IndexFunc(p.list, func(n note) bool { return n.id.Session == session })
}

func plainMayBe(id api.Id) bool {
	return 0 <= id.Session && id.Session <= 2147483647 && 1 <= id.Seq && id.Seq <= 2147483647
}

func (p *plain) find(id api.Id) (api.Reply, api.Errno) {
	if !plainMayBe(id) {
		return api.Reply{}, api.ErrArg
	}
	i := p.place(id.Session)
	switch {
	case i < 0, p.list[i].id.Seq < id.Seq:
		return api.Reply{}, api.ErrNone
	case p.list[i].id.Seq > id.Seq:
		return api.Reply{}, api.ErrOld
	}
	return p.list[i].reply, api.OK
}

func (p *plain) put(id api.Id, r api.Reply) api.Errno {
	if !plainMayBe(id) || len(r.Posts) > 64 {
		return api.ErrArg
	}
	n := note{id, cloned(r)}
	i := p.place(id.Session)
	switch {
	case i >= 0 && p.list[i].id.Seq >= id.Seq:
		return api.ErrOld
	case i < 0 && len(p.list) == 64:
		return api.ErrFull
	case i < 0:
		p.list = append(p.list, n)
	default:
		p.list[i] = n
	}
	return api.OK
}

// ids are those of all sessions, each at the place that as many are below as there are ahead of it.
func (p *plain) ids() []api.Id {
	list := make([]api.Id, len(p.list))
	for _, n := range p.list {
		below := 0
		for _, other := range p.list {
			if other.id.Session < n.id.Session {
				below++
			}
		}
		list[below] = n.id
	}
	return list
}

// both are a table and a plain one, of which the same is asked.
type both struct {
	*testing.T
	t *session.Table
	p *plain
}

// made are both tables, behind puts of these ids, each with its seq as the reply's number.
func made(t *testing.T, ids ...api.Id) both {
	t.Helper()
	table := session.New()
	if table == nil {
		t.Fatal("New gave nothing")
	}
	b := both{t, table, &plain{}}
	for _, id := range ids {
		b.puts(id, at(id.Seq), api.OK)
	}
	return b
}

// full are both tables with the sessions 100 to 163, each with the seq 5.
func full(t *testing.T) both {
	t.Helper()
	b := made(t)
	for i := range 64 {
		b.puts(of(100+i, 5), at(i), api.OK)
	}
	return b
}

func (b both) copy() both {
	b.Helper()
	table := b.t.Copy()
	if table == nil || table == b.t {
		b.Fatal("Copy gave no other table")
	}
	return both{b.T, table, &plain{slices.Clone(b.p.list)}}
}

func (b both) put(id api.Id, r api.Reply) api.Errno {
	b.Helper()
	got, want := b.t.Put(id, r), b.p.put(id, r)
	if got != want {
		b.Errorf("Put(%v) of %d posts: %d, not %d", id, len(r.Posts), got, want)
	}
	return got
}

// puts asks that Put answers this, and that both tables are the same then: so what was refused left all as it was.
func (b both) puts(id api.Id, r api.Reply, want api.Errno) {
	b.Helper()
	if got := b.put(id, r); got != want {
		b.Errorf("Put(%v) of %d posts: %d, not %d", id, len(r.Posts), got, want)
	}
	b.same(id)
}

func (b both) find(id api.Id) (api.Reply, api.Errno) {
	b.Helper()
	got, e := b.t.Find(id)
	if r, want := b.p.find(id); e != want || !sameReply(got, r) {
		b.Errorf("Find(%v): %v, %d, not %v, %d", id, got, e, r, want)
	}
	return got, e
}

// finds asks that Find answers this.
func (b both) finds(id api.Id, want api.Reply, wantErr api.Errno) {
	b.Helper()
	if r, e := b.find(id); e != wantErr || !sameReply(r, want) {
		b.Errorf("Find(%v): %v, %d, not %v, %d", id, r, e, want, wantErr)
	}
}

// same asks that both tables are the same in all that they tell: of all sessions, and of these ids.
func (b both) same(ids ...api.Id) {
	b.Helper()
	if got := b.t.Len(); got != len(b.p.list) {
		b.Errorf("Len: %d, not %d", got, len(b.p.list))
	}
	if got, want := b.t.Ids(), b.p.ids(); !slices.Equal(got, want) {
		b.Errorf("Ids: %v, not %v", got, want)
	}
	for _, n := range b.p.list {
		ids = append(ids, n.id)
	}
	for _, id := range ids {
		for _, seq := range []int{id.Seq, id.Seq - 1, id.Seq + 1} {
			b.find(of(id.Session, seq))
		}
	}
}

// ids asks for the last ids of all sessions.
func (b both) ids(want ...api.Id) {
	b.Helper()
	if got := b.t.Ids(); !slices.Equal(got, want) {
		b.Errorf("Ids: %v, not %v", got, want)
	}
	if got := b.t.Len(); got != len(want) {
		b.Errorf("Len: %d, not %d", got, len(want))
	}
}
