package raft_test

import (
	"fmt"
	"maps"
	"math"
	"reflect"
	"rookery/api"
	"rookery/raft"
	"testing"
)

// plain is a node by the chapter's words: its entries stand by their indexes (the base's, without data, too), and whatever is the highest one is looked for one by one.
type plain struct {
	id, nodes, term, vote, role, lead, commit, wait, left, base, last int
	data                                                              string
	at                                                                map[int]api.Entry
	votes                                                             map[int]bool
	next, match                                                       map[int]int
	records                                                           []api.Record
	refused                                                           int // how many entries layer 6 had no room for
}

func newPlain(id, nodes int, s api.Saved, draw int) *plain {
	p := &plain{id: id, nodes: nodes, term: s.Term, vote: s.Vote, role: api.Follower, lead: -1, commit: s.Base,
		wait: 10 + draw%10, left: 10 + draw%10, base: s.Base, last: s.Base, data: s.Data, at: map[int]api.Entry{s.Base: {Term: s.BaseTerm}}}
	for _, x := range s.Entries {
		p.last++
		p.at[p.last] = x
	}
	return p
}

func (p *plain) saved() api.Saved {
	s := api.Saved{Term: p.term, Vote: p.vote, Base: p.base, BaseTerm: p.at[p.base].Term, Data: p.data}
	for i := p.base + 1; i <= p.last; i++ {
		s.Entries = append(s.Entries, p.at[i])
	}
	return s
}

func (p *plain) tell() string {
	return fmt.Sprintf("role %d lead %d commit %d left %d, %s", p.role, p.lead, p.commit, p.left, tellSaved(p.saved()))
}

// add appends an entry, unless layer 6 has no room for it: then all but the log is as if it had.
func (p *plain) add(x api.Entry) {
	if x.Term < p.at[p.last].Term || p.last == api.MaxIndex {
		p.refused++
		return
	}
	p.last++
	p.at[p.last] = x
	p.records = append(p.records, entryRecord(p.last, x.Term, x.Data))
}

func (p *plain) end(last int) {
	maps.DeleteFunc(p.at, func(i int, _ api.Entry) bool { return i > last })
	p.last = last
}

func (p *plain) rebase(index, term int, data string) {
	if x, there := p.at[index]; !there || x.Term != term {
		p.end(p.base)
		p.last = index
	}
	maps.DeleteFunc(p.at, func(i int, _ api.Entry) bool { return i <= index })
	p.at[index] = api.Entry{Term: term}
	p.base, p.data = index, data
	p.records = append(p.records, baseRecord(index, term, data))
}

func (p *plain) tellNode(to int) api.Message {
	ahead := p.next[to] - 1
	if ahead < p.base {
		return snap(p.id, to, p.term, p.base, p.at[p.base].Term, p.commit, p.data)
	}
	m := appends(p.id, to, p.term, ahead, p.at[ahead].Term, p.commit)
	for i := ahead + 1; i <= p.last && i <= ahead+16; i++ {
		m.Entries = append(m.Entries, p.at[i])
	}
	return m
}

func (p *plain) tellAll() []api.Message {
	var out []api.Message
	for to := range p.nodes {
		if to != p.id {
			out = append(out, p.tellNode(to))
		}
	}
	return out
}

func (p *plain) commits() {
	for i := p.last; i > p.commit; i-- {
		have := 1 // its own match is always Last
		for k := range p.nodes {
			if k != p.id && p.match[k] >= i {
				have++
			}
		}
		if p.at[i].Term == p.term && have > p.nodes/2 {
			p.commit = i
			return
		}
	}
}

func (p *plain) leads() []api.Message {
	p.role, p.lead = api.Leader, p.id
	p.next, p.match = map[int]int{}, map[int]int{}
	for k := range p.nodes {
		p.next[k] = p.last + 1
	}
	p.add(api.Entry{Term: p.term})
	p.commits()
	return p.tellAll()
}

func (p *plain) stands(draw int) []api.Message {
	if p.term == api.MaxIndex {
		p.left = p.wait
		return nil
	}
	p.term++
	p.role, p.vote, p.lead, p.votes = api.Candidate, p.id, -1, map[int]bool{p.id: true}
	p.wait = 10
	if draw >= 0 {
		p.wait += draw % 10
	}
	p.left = p.wait
	if p.nodes == 1 {
		return p.leads()
	}
	var out []api.Message
	for to := range p.nodes {
		if to != p.id {
			out = append(out, vote(p.id, to, p.term, p.last, p.at[p.last].Term))
		}
	}
	return out
}

// hard does a call and puts RecHard ahead of its records.
func (p *plain) hard(call func() []api.Message) []api.Message {
	term, vote, told := p.term, p.vote, p.records
	p.records = nil
	out := call()
	if p.term != term || p.vote != vote {
		told = append(told, hardRecord(p.term, p.vote))
	}
	p.records = append(told, p.records...)
	return out
}

func (p *plain) tick(draw int) []api.Message {
	if p.role == api.Leader {
		return p.tellAll()
	}
	p.left--
	if p.left > 0 {
		return nil
	}
	return p.hard(func() []api.Message { return p.stands(draw) })
}

func (p *plain) propose(data string) (int, int, []api.Message, api.Errno) {
	switch {
	case p.role != api.Leader:
		return 0, 0, nil, api.ErrLead
	case len(data) > api.MaxRecord:
		return 0, 0, nil, api.ErrArg
	}
	p.add(api.Entry{Term: p.term, Data: data})
	p.commits()
	return p.last, p.term, p.tellAll(), api.OK
}

func (p *plain) compact(index int, data string) api.Errno {
	switch {
	case len(data) > api.MaxRecord:
		return api.ErrArg
	case index <= p.base:
		return api.ErrGone
	case index > p.commit:
		return api.ErrNone
	}
	p.rebase(index, p.at[index].Term, data)
	return api.OK
}

func (p *plain) may(m api.Message) bool {
	within := func(n, least int) bool { return n >= least && n <= 1<<40 }
	ok := m.Group == group && m.To == p.id && m.From >= 0 && m.From < p.nodes && m.From != p.id && m.Kind >= 1 && m.Kind <= 5 &&
		within(m.Term, 1) && within(m.Index, 0) && within(m.At, 0) && within(m.Commit, 0) && len(m.Entries) <= 16 && len(m.Data) <= 1<<18
	for i, x := range m.Entries {
		ok = ok && len(x.Data) <= 1<<18 && (i == 0 || x.Term >= m.Entries[i-1].Term)
	}
	if k := len(m.Entries); ok && k > 0 {
		ok = m.Entries[0].Term >= m.At && m.Entries[k-1].Term <= m.Term
	}
	return ok
}

func (p *plain) receive(m api.Message) []api.Message {
	if !p.may(m) {
		return nil
	}
	return p.hard(func() []api.Message {
		if m.Term > p.term {
			p.term, p.vote, p.role, p.lead = m.Term, -1, api.Follower, -1
		}
		switch m.Kind {
		case api.MsgVote:
			return p.asked(m)
		case api.MsgVoted:
			return p.counted(m)
		case api.MsgAppended:
			return p.answered(m)
		}
		if m.Term < p.term {
			return []api.Message{appended(p.id, m.From, p.term, false, p.last)}
		}
		if p.role == api.Leader {
			return nil
		}
		p.role, p.lead, p.left = api.Follower, m.From, p.wait
		if m.Kind == api.MsgAppend {
			return p.told(m)
		}
		if m.Index <= p.commit {
			return []api.Message{appended(p.id, m.From, p.term, true, p.commit)}
		}
		p.rebase(m.Index, m.At, m.Data)
		p.commit = m.Index
		return []api.Message{appended(p.id, m.From, p.term, true, m.Index)}
	})
}

func (p *plain) asked(m api.Message) []api.Message {
	last := p.at[p.last].Term
	newer := m.At > last || m.At == last && m.Index >= p.last
	ok := m.Term == p.term && p.role == api.Follower && (p.vote == -1 || p.vote == m.From) && newer
	if ok {
		p.vote, p.left = m.From, p.wait
	}
	return []api.Message{voted(p.id, m.From, p.term, ok)}
}

func (p *plain) counted(m api.Message) []api.Message {
	if m.Term != p.term || p.role != api.Candidate || !m.Ok {
		return nil
	}
	p.votes[m.From] = true
	if len(p.votes) > p.nodes/2 {
		return p.leads()
	}
	return nil
}

func (p *plain) answered(m api.Message) []api.Message {
	if m.Term != p.term || p.role != api.Leader || m.Ok && m.Index > p.last {
		return nil
	}
	k := m.From
	if !m.Ok {
		p.next[k] = max(min(p.next[k]-1, m.Index+1), p.match[k]+1)
		return []api.Message{p.tellNode(k)}
	}
	p.match[k] = max(p.match[k], m.Index)
	p.next[k] = max(p.next[k], p.match[k]+1)
	p.commits()
	if p.next[k] > p.last {
		return nil
	}
	return []api.Message{p.tellNode(k)}
}

func (p *plain) told(m api.Message) []api.Message {
	x, there := p.at[m.Index]
	if m.Index > p.last || m.Index >= p.base && there && x.Term != m.At {
		return []api.Message{appended(p.id, m.From, p.term, false, max(0, min(p.last, m.Index-1)))}
	}
	for i, y := range m.Entries {
		at := m.Index + 1 + i
		if x, there := p.at[at]; there && at > p.base && at <= p.commit && x.Term != y.Term {
			return nil
		}
	}
	for i, y := range m.Entries {
		at := m.Index + 1 + i
		x, there := p.at[at]
		if at <= p.base || there && x.Term == y.Term {
			continue
		}
		if there {
			p.end(at - 1)
			p.records = append(p.records, cutRecord(at))
		}
		p.add(y)
	}
	p.commit = max(p.commit, min(m.Commit, m.Index+len(m.Entries)))
	return []api.Message{appended(p.id, m.From, p.term, true, m.Index+len(m.Entries))}
}

// draws are numbers that look as if they hung on nothing.
func draws(seed uint32) func(int) int {
	return func(below int) int {
		seed = seed*1664525 + 1013904223
		return int(uint64(seed) * uint64(below) >> 32)
	}
}

// drawnEntries rise from a term on; many of them are as the node has them.
func drawnEntries(p *plain, m api.Message, draw func(int) int) []api.Entry {
	var list []api.Entry
	term := m.At
	for i := range draw(2) * draw(2) * draw(6) {
		x, there := p.at[m.Index+1+i]
		if there && i+m.Index+1 > p.base && x.Term >= term && draw(8) > 0 {
			list = append(list, x)
			term = x.Term
			continue
		}
		if draw(4) == 0 {
			term = min(term+draw(3), max(m.Term, term))
		}
		list = append(list, api.Entry{Term: term - draw(40)/39, Data: fmt.Sprint(draw(100))})
	}
	if draw(60) == 0 {
		list = make([]api.Entry, 16+draw(2))
		for i := range list {
			list[i].Term = term
		}
	}
	return list
}

// drawn is a message that is likely to be heard by the node.
func drawn(p *plain, draw func(int) int) api.Message {
	m := api.Message{Kind: 1 + draw(5), Group: group, To: p.id, From: draw(p.nodes), Term: p.term + draw(8)/7 - draw(8)/7, Ok: draw(3) > 0}
	m.Index = p.base - 2 + draw(p.last-p.base+5)
	m.At = max(p.term-draw(5), 0)
	if x, there := p.at[m.Index]; there && draw(6) > 0 {
		m.At = x.Term
	}
	m.Commit = max(p.commit-2+draw(6), 0)
	m.Entries = drawnEntries(p, m, draw)
	if m.Kind == api.MsgSnap {
		m.Data = fmt.Sprint("snap ", draw(100))
	}
	switch draw(100) {
	case 0:
		m.Kind = draw(9) - 1
	case 1:
		m.Group = draw(9)
	case 2:
		m.From = draw(9) - 1
	case 3:
		m.To = draw(9) - 1
	case 4:
		m.Commit = draw(2)*(1<<40) + draw(3) - 1
	case 5:
		m.Index = draw(2)*(1<<40) + draw(3) - 1
	case 6:
		m.At = draw(2)*(1<<40) + draw(3) - 1
	}
	return m
}

// begins is what a node may have been saved as: ordinary, near the highest index, near the highest term.
func begins(draw func(int) int, nodes int) api.Saved {
	base, term := draw(2)*draw(9), draw(4)
	if draw(8) == 0 {
		base = 1<<40 - draw(6)
	}
	if draw(8) == 0 {
		term = 1<<40 - 3 - draw(4)
	}
	s := saved(term, base, term)
	for i := range min(draw(6), 1<<40-base) {
		term += draw(2)
		s.Entries = append(s.Entries, api.Entry{Term: term, Data: fmt.Sprint("old ", i)})
		if term >= 1<<40-1 {
			break
		}
	}
	s.Term = min(term+draw(3), 1<<40)
	s.Vote = draw(nodes+1) - 1
	return s
}

// both are a node and a plain one, to which the same is done.
type both struct {
	t     *testing.T
	n     *raft.Node
	p     *plain
	first api.Saved
	seed  uint32
}

// step does one thing that is drawn to both, which must answer the same.
func (b *both) step(draw func(int) int) string {
	switch k := draw(20); {
	case k == 0:
		data := fmt.Sprint("data ", draw(100))
		i, term, out, e := b.n.Propose(data)
		j, own, want, f := b.p.propose(data)
		b.same("Propose", out, want)
		if i != j || term != own || e != f {
			b.t.Fatalf("seed %d: Propose: %d, %d, %d, not %d, %d, %d", b.seed, i, term, e, j, own, f)
		}
		return "Propose"
	case k == 1:
		index := b.p.base - 1 + draw(b.p.commit-b.p.base+3)
		need(b.t, "Compact", b.n.Compact(index, "compacted"), b.p.compact(index, "compacted"))
		return fmt.Sprint("Compact ", index)
	case k < 5:
		draws := []int{0, 3, 9, 10, 44, -1, math.MinInt, math.MaxInt}
		d := draws[draw(len(draws))]
		for range draw(2) * b.p.left {
			b.same("Tick", b.n.Tick(d), b.p.tick(d))
		}
		b.same("Tick", b.n.Tick(d), b.p.tick(d))
		return "Tick"
	case k < 8 && b.p.role == api.Candidate:
		m := voted(draw(b.p.nodes), b.p.id, b.p.term, true)
		b.same("MsgVoted", b.n.Receive(m), b.p.receive(m))
		return "MsgVoted"
	}
	m := drawn(b.p, draw)
	what := fmt.Sprintf("%+v", m)
	b.same(what, b.n.Receive(m), b.p.receive(m))
	return what
}

func (b *both) same(what string, got, want []api.Message) {
	b.t.Helper()
	if got, want := alike(got), alike(want); !reflect.DeepEqual(got, want) {
		b.t.Fatalf("seed %d: %s: sends\n%+v, not\n%+v\nof %s", b.seed, what, got, want, b.p.tell())
	}
}

// Whatever is done to a node, it does what the chapter's words say, and its records make what it saves.
func TestANodeIsAPlainOneWhateverIsDone(t *testing.T) {
	var roles, commits, bases, refused, above int
	for seed := range uint32(3000) {
		draw := draws(seed * 2654435761)
		nodes := 1 + draw(7)
		id := draw(nodes)
		s, d := begins(draw, nodes), draw(30)
		n, e := raft.New(group, id, nodes, s, d)
		if e != api.OK {
			t.Fatalf("seed %d: New of %s: %d", seed, tellSaved(s), e)
		}
		b := &both{t, n, newPlain(id, nodes, s, d), s, seed}
		for range 60 {
			before := b.p.tell()
			what := b.step(draw)
			if got, want := tell(n), b.p.tell(); got != want {
				t.Fatalf("seed %d: %s of\n%s:\n%s, not\n%s", seed, what, before, got, want)
			}
			roles |= 1 << b.p.role
			if b.p.commit > b.p.last {
				above++
			}
			if draw(3) == 0 {
				b.told(what)
			}
		}
		commits += b.p.commit - s.Base
		bases += b.p.base - s.Base
		refused += b.p.refused
	}
	if roles != 1<<api.Follower|1<<api.Candidate|1<<api.Leader || commits == 0 || bases == 0 || refused == 0 || above == 0 {
		t.Errorf("roles %b, %d committed, %d compacted, %d refused, %d times a commit above Last", roles, commits, bases, refused, above)
	}
}

// told asks that both tell the same records, and that these make what is saved.
func (b *both) told(what string) {
	b.t.Helper()
	list, want := b.n.Records(), b.p.records
	b.p.records = nil
	if len(list)+len(want) > 0 && !reflect.DeepEqual(list, want) {
		b.t.Fatalf("seed %d: %s: records\n%+v, not\n%+v", b.seed, what, list, want)
	}
	b.first = behind(b.t, b.first, list)
	if got := b.n.Saved(); tellSaved(got) != tellSaved(b.first) {
		b.t.Fatalf("seed %d: %s: saved\n%s, not\n%s", b.seed, what, tellSaved(got), tellSaved(b.first))
	}
}
