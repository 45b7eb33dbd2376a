package rlog_test

import (
	"maps"
	"rookery/api"
	"rookery/rlog"
	"slices"
	"testing"
)

// plain is a log by the chapter's words: its entries stand by their indexes, and its terms too, the base's among them.
type plain struct {
	base, last int
	terms      map[int]int
	data       map[int]string
}

func newPlain(base, term int) *plain {
	return &plain{base, base, map[int]int{base: term}, map[int]string{}}
}

func (p *plain) term(index int) (int, api.Errno) {
	switch {
	case index < p.base:
		return 0, api.ErrGone
	case index > p.last:
		return 0, api.ErrNone
	}
	return p.terms[index], api.OK
}

func (p *plain) entry(index int) (api.Entry, api.Errno) {
	switch {
	case index <= p.base:
		return api.Entry{}, api.ErrGone
	case index > p.last:
		return api.Entry{}, api.ErrNone
	}
	return api.Entry{Term: p.terms[index], Data: p.data[index]}, api.OK
}

func (p *plain) slice(index, most int) ([]api.Entry, api.Errno) {
	switch {
	case most < 0:
		return nil, api.ErrArg
	case index <= p.base:
		return nil, api.ErrGone
	case index > p.last+1:
		return nil, api.ErrNone
	}
	var list []api.Entry
	for ; index <= p.last && len(list) < most; index++ {
		list = append(list, api.Entry{Term: p.terms[index], Data: p.data[index]})
	}
	return list, api.OK
}

func (p *plain) append(x api.Entry) (int, api.Errno) {
	switch {
	case x.Term > api.MaxIndex || len(x.Data) > api.MaxRecord:
		return 0, api.ErrArg
	case x.Term < p.terms[p.last]:
		return 0, api.ErrOrder
	case p.last == api.MaxIndex:
		return 0, api.ErrFull
	}
	p.last++
	p.terms[p.last], p.data[p.last] = x.Term, x.Data
	return p.last, api.OK
}

func (p *plain) cut(index int) api.Errno {
	switch {
	case index <= p.base:
		return api.ErrGone
	case index > p.last+1:
		return api.ErrNone
	}
	p.last = index - 1
	p.drop(func(i int) bool { return i >= index })
	return api.OK
}

func (p *plain) compact(index int) api.Errno {
	switch {
	case index < p.base:
		return api.ErrGone
	case index > p.last:
		return api.ErrNone
	}
	p.base = index
	p.drop(func(i int) bool { return i < index })
	return api.OK
}

// drop forgets all indexes that are gone.
func (p *plain) drop(gone func(int) bool) {
	maps.DeleteFunc(p.terms, func(i, _ int) bool { return gone(i) })
	maps.DeleteFunc(p.data, func(i int, _ string) bool { return gone(i) })
}

func (p *plain) newer(index, term int) bool {
	last := p.terms[p.last]
	return term > last || term == last && index >= p.last
}

// same asks that a log answers as a plain one does, at each index and at those around.
func same(t *testing.T, l *rlog.Log, p *plain) {
	t.Helper()
	if l.Base() != p.base || l.Last() != p.last {
		t.Fatalf("from %d to %d, not from %d to %d", l.Base(), l.Last(), p.base, p.last)
	}
	for index := p.base - 2; index <= p.last+3; index++ {
		sameAt(t, l, p, index)
	}
	for index := p.last - 1; index <= p.last+1; index++ {
		for term := p.terms[p.last] - 1; term <= p.terms[p.last]+1; term++ {
			if got, want := l.Newer(index, term), p.newer(index, term); got != want {
				t.Errorf("Newer(%d, %d): %v", index, term, got)
			}
		}
	}
}

// sameAt asks that a log answers as a plain one does at one index.
func sameAt(t *testing.T, l *rlog.Log, p *plain, index int) {
	t.Helper()
	term, e := l.Term(index)
	if n, f := p.term(index); term != n || e != f {
		t.Errorf("Term(%d): %d, %d, not %d, %d", index, term, e, n, f)
	}
	x, e := l.Entry(index)
	if y, f := p.entry(index); x != y || e != f {
		t.Errorf("Entry(%d): %v, %d, not %v, %d", index, x, e, y, f)
	}
	for _, most := range []int{-1, 0, 1, 2, p.last - index, p.last - index + 1, p.last - index + 2} {
		list, e := l.Slice(index, most)
		if want, f := p.slice(index, most); !slices.Equal(list, want) || e != f {
			t.Errorf("Slice(%d, %d): %v, %d, not %v, %d", index, most, list, e, want, f)
		}
	}
}
