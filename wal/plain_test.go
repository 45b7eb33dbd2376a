package wal_test

import (
	"maps"
	"rookery/api"
	"strings"
)

// plain is a group by the chapter's words: its entries stand by their indexes.
type plain struct {
	term, vote, base, baseTerm, last int
	data                             string
	at                               map[int]api.Entry
}

// do does a record that fits.
func (p *plain) do(r api.Record) {
	switch r.Kind {
	case api.RecHard:
		p.term, p.vote = r.Term, r.Vote
	case api.RecEntry:
		p.last = r.Index
		p.at[r.Index] = api.Entry{Term: r.Term, Data: r.Data}
	case api.RecCut:
		p.end(r.Index - 1)
	case api.RecBase:
		x, there := p.at[r.Index]
		if !(there && x.Term == r.Term) && !(r.Index == p.base && r.Term == p.baseTerm) {
			p.end(p.base)
			p.last = r.Index
		}
		maps.DeleteFunc(p.at, func(i int, _ api.Entry) bool { return i <= r.Index })
		p.base, p.baseTerm, p.data = r.Index, r.Term, r.Data
	}
}

// end lets go of all entries behind an index.
func (p *plain) end(index int) {
	maps.DeleteFunc(p.at, func(i int, _ api.Entry) bool { return i > index })
	p.last = index
}

// saved is the group as the log should tell it.
func (p *plain) saved() api.Saved {
	s := api.Saved{Term: p.term, Vote: p.vote, Base: p.base, BaseTerm: p.baseTerm, Data: p.data}
	for i := p.base + 1; i <= p.last; i++ {
		s.Entries = append(s.Entries, p.at[i])
	}
	return s
}

// plains are all groups behind these records.
func plains(records []api.Record) *[api.MaxGroups]plain {
	var l [api.MaxGroups]plain
	for i := range l {
		l[i] = plain{vote: -1, at: map[int]api.Entry{}}
	}
	for _, r := range records {
		l[r.Group].do(r)
	}
	return &l
}

// plainState is what state should tell of a log of these records.
func plainState(records []api.Record) string {
	l := plains(records)
	var b strings.Builder
	for i := range l {
		b.WriteString(tell(l[i].saved()) + "\n")
	}
	return b.String()
}

// bound is how many bytes a log of these records may have behind Clean.
func bound(records []api.Record) int {
	n := 4096
	l := plains(records)
	for i := range l {
		s := l[i].saved()
		n += 2 * len(s.Data)
		for _, x := range s.Entries {
			n += 64 + 2*len(x.Data)
		}
	}
	return n
}

// drawn is a record that fits behind these ones, of whatever kind.
func drawn(records []api.Record, draw func(int) int) api.Record {
	g := draw(3) * 4
	p := &plains(records)[g]
	data := strings.Repeat(string(rune('a'+draw(26))), draw(2)*draw(30))
	switch k := draw(12); {
	case k == 0:
		return hard(g, draw(5), draw(4)-1)
	case k == 1 && p.last > p.base:
		return cut(g, p.base+1+draw(p.last-p.base))
	case k == 2:
		return base(g, p.base+draw(p.last-p.base+3), draw(6), data)
	case k == 3 && p.last > p.base:
		i := p.base + 1 + draw(p.last-p.base)
		return base(g, i, p.at[i].Term, data)
	case k == 4:
		return base(g, p.base, p.baseTerm, data)
	}
	term := p.baseTerm
	if p.last > p.base {
		term = p.at[p.last].Term
	}
	return entry(g, p.last+1, term+draw(6)/5, data)
}
