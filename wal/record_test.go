package wal_test

import (
	"math"
	"rookery/api"
	"rookery/wal"
	"strings"
	"testing"
)

// The most that data may have, and one byte more.
var (
	most = strings.Repeat("\xff", 1<<17)
	more = most + "x"
)

// refuses asks that a log on a disk of its own refuses a record so, and is left as it was.
func refuses(t *testing.T, before []api.Record, r api.Record, want api.Errno) {
	t.Helper()
	d := made(t, 1<<20)
	l := opened(t, d, 1<<19)
	put(t, l, before...)
	was, files := state(t, l), image(d)
	if e := l.Append(r); e != want {
		t.Errorf("Append(%s): %d, not %d", short(r), e, want)
	}
	if state(t, l) != was || image(d) != files {
		t.Errorf("Append(%s) was refused, and changed the log", short(r))
	}
}

// makes asks that records are taken, and what they make, now and behind Open.
func makes(t *testing.T, records []api.Record, group int, want api.Saved) {
	t.Helper()
	d := made(t, 1<<21)
	l := opened(t, d, 1<<19)
	put(t, l, records...)
	for _, x := range []*wal.Log{l, opened(t, d, 1<<19)} {
		if s, e := x.Saved(group); tell(s) != tell(want) || e != api.OK {
			t.Errorf("%.200s makes %.200s, not %.200s", short(records[len(records)-1]), tell(s), tell(want))
		}
	}
}

// TestRecordsAtTheirFieldsEnds: what may just be is taken.
func TestRecordsAtTheirFieldsEnds(t *testing.T) {
	const top = api.MaxIndex
	for _, g := range []int{0, api.MaxGroups - 1} {
		makes(t, []api.Record{hard(g, 0, -1)}, g, api.Saved{Vote: -1})
		makes(t, []api.Record{hard(g, top, api.MaxNodes-1)}, g, api.Saved{Term: top, Vote: api.MaxNodes - 1})
		makes(t, []api.Record{entry(g, 1, 0, "")}, g, api.Saved{Vote: -1, Entries: []api.Entry{{}}})
		makes(t, []api.Record{entry(g, 1, top, most)}, g, api.Saved{Vote: -1, Entries: []api.Entry{{Term: top, Data: most}}})
		makes(t, []api.Record{base(g, top-1, top, ""), entry(g, top, top, "z")}, g, api.Saved{Vote: -1, Base: top - 1, BaseTerm: top, Entries: []api.Entry{{Term: top, Data: "z"}}})
		makes(t, []api.Record{entry(g, 1, 5, "a"), cut(g, 1)}, g, api.Saved{Vote: -1})
		makes(t, []api.Record{base(g, top-1, 0, ""), entry(g, top, 1, "z"), cut(g, top)}, g, api.Saved{Vote: -1, Base: top - 1})
		makes(t, []api.Record{base(g, 0, 0, "")}, g, api.Saved{Vote: -1})
		makes(t, []api.Record{base(g, top, top, most)}, g, api.Saved{Vote: -1, Base: top, BaseTerm: top, Data: most})
	}
}

// TestRecordsOneBeyond: what may just not be is ErrArg, also where it would not fit.
func TestRecordsOneBeyond(t *testing.T) {
	const top = api.MaxIndex
	for _, r := range []api.Record{
		hard(-1, 0, -1), hard(api.MaxGroups, 0, -1), hard(math.MinInt, 0, -1), hard(math.MaxInt, 0, -1),
		hard(0, -1, 0), hard(0, top+1, 0), hard(0, 0, -2), hard(0, 0, api.MaxNodes), hard(0, math.MinInt, math.MinInt), hard(0, math.MaxInt, math.MaxInt),
		entry(-1, 1, 0, ""), entry(api.MaxGroups, 1, 0, ""),
		entry(0, 0, 0, ""), entry(0, -1, 0, ""), entry(0, top+1, 0, ""), entry(0, math.MinInt, 0, ""), entry(0, math.MaxInt, 0, ""),
		entry(0, 1, -1, ""), entry(0, 1, top+1, ""), entry(0, 1, 0, more), entry(0, 1, 0, most+most),
		cut(-1, 1), cut(api.MaxGroups, 1), cut(0, 0), cut(0, -1), cut(0, top+1), cut(0, math.MaxInt),
		base(-1, 0, 0, ""), base(api.MaxGroups, 0, 0, ""),
		base(0, -1, 0, ""), base(0, top+1, 0, ""), base(0, 0, -1, ""), base(0, 0, top+1, ""), base(0, 0, 0, more),
	} {
		refuses(t, nil, r, api.ErrArg)
	}
	full := []api.Record{base(0, top, 0, "")}
	refuses(t, full, entry(0, top+1, 0, ""), api.ErrArg) // the next one, and yet none
}

func TestKindsThatAreNone(t *testing.T) {
	for _, kind := range []int{math.MinInt, -1, 0, api.RecBase + 1, 256 + api.RecHard, math.MaxInt} {
		refuses(t, nil, api.Record{Kind: kind}, api.ErrArg)
		refuses(t, nil, api.Record{Kind: kind, Index: 1, Term: 1}, api.ErrArg)
	}
}

// TestFieldsThatAKindDoesNotHave: they are 0, or empty.
func TestFieldsThatAKindDoesNotHave(t *testing.T) {
	before := []api.Record{entry(0, 1, 1, "a")}
	for _, r := range []api.Record{
		{Kind: api.RecHard, Term: 1, Index: 1}, {Kind: api.RecHard, Term: 1, Index: -1}, {Kind: api.RecHard, Term: 1, Data: "x"},
		{Kind: api.RecEntry, Index: 2, Term: 1, Vote: 1}, {Kind: api.RecEntry, Index: 2, Term: 1, Vote: -1},
		{Kind: api.RecCut, Index: 1, Term: 1}, {Kind: api.RecCut, Index: 1, Term: -1},
		{Kind: api.RecCut, Index: 1, Vote: 1}, {Kind: api.RecCut, Index: 1, Vote: -1}, {Kind: api.RecCut, Index: 1, Data: "x"},
		{Kind: api.RecBase, Index: 1, Term: 1, Vote: 1}, {Kind: api.RecBase, Index: 1, Term: 1, Vote: -1},
	} {
		refuses(t, before, r, api.ErrArg)
	}
}

func TestRecordsThatDoNotFit(t *testing.T) {
	long := []api.Record{base(2, 5, 3, "five"), entry(2, 6, 3, ""), entry(2, 7, 4, "")}
	bare := []api.Record{base(2, 5, 3, "five")}
	for _, c := range []struct {
		before []api.Record
		r      api.Record
	}{
		{nil, entry(2, 2, 0, "")}, {nil, entry(2, api.MaxIndex, 0, "")},
		{long, entry(2, 7, 4, "")}, {long, entry(2, 9, 4, "")}, {long, entry(2, 1, 4, "")}, {long, entry(2, 5, 4, "")},
		{long, entry(2, 8, 3, "")}, {long, entry(2, 8, 0, "")}, // the last one's term is 4
		{bare, entry(2, 5, 3, "")}, {bare, entry(2, 7, 3, "")}, {bare, entry(2, 6, 2, "")}, // the base's is 3
		{long, entry(1, 8, 4, "")}, // another group's
		{nil, cut(2, 1)}, {bare, cut(2, 5)}, {bare, cut(2, 6)}, {bare, cut(2, 1)},
		{long, cut(2, 5)}, {long, cut(2, 4)}, {long, cut(2, 8)}, {long, cut(2, api.MaxIndex)}, {long, cut(1, 6)},
		{long, base(2, 4, 3, "")}, {long, base(2, 0, 0, "")}, {bare, base(2, 4, 3, "")},
	} {
		refuses(t, c.before, c.r, api.ErrOrder)
	}
}

// TestArgAheadOfOrder: what may not be and does not fit, may not be.
func TestArgAheadOfOrder(t *testing.T) {
	before := []api.Record{base(0, 5, 3, "")}
	refuses(t, before, entry(0, 9, -1, ""), api.ErrArg)
	refuses(t, before, api.Record{Kind: api.RecCut, Index: 2, Data: "x"}, api.ErrArg)
	refuses(t, before, base(0, 1, 0, more), api.ErrArg)
}

// TestWhatRecordsMake: kind by kind.
func TestWhatRecordsMake(t *testing.T) {
	three := []api.Record{hard(4, 2, 1), entry(4, 1, 1, "a"), entry(4, 2, 1, "b"), entry(4, 3, 2, "c")}
	behind := func(r ...api.Record) []api.Record { return append(three[:len(three):len(three)], r...) }
	a, b, c := api.Entry{Term: 1, Data: "a"}, api.Entry{Term: 1, Data: "b"}, api.Entry{Term: 2, Data: "c"}
	for _, x := range []struct {
		r    []api.Record
		want api.Saved
	}{
		{behind(), api.Saved{Term: 2, Vote: 1, Entries: []api.Entry{a, b, c}}},
		{behind(hard(4, 0, -1)), api.Saved{Vote: -1, Entries: []api.Entry{a, b, c}}},
		{behind(cut(4, 3)), api.Saved{Term: 2, Vote: 1, Entries: []api.Entry{a, b}}},
		{behind(cut(4, 2)), api.Saved{Term: 2, Vote: 1, Entries: []api.Entry{a}}},
		{behind(cut(4, 1)), api.Saved{Term: 2, Vote: 1}},
		{behind(cut(4, 2), entry(4, 2, 9, "z")), api.Saved{Term: 2, Vote: 1, Entries: []api.Entry{a, {Term: 9, Data: "z"}}}},
		{behind(cut(4, 1), entry(4, 1, 0, "z")), api.Saved{Term: 2, Vote: 1, Entries: []api.Entry{{Data: "z"}}}}, // no term is too low any more
		{behind(entry(4, 4, 2, "")), api.Saved{Term: 2, Vote: 1, Entries: []api.Entry{a, b, c, {Term: 2}}}},
	} {
		makes(t, x.r, 4, x.want)
		makes(t, x.r, 3, api.Saved{Vote: -1})
	}
}

// TestBaseAndTheEntriesBehindIt: they stay, if the one there has its term, or the base is as it was.
func TestBaseAndTheEntriesBehindIt(t *testing.T) {
	three := []api.Record{base(4, 5, 1, "five"), entry(4, 6, 1, "a"), entry(4, 7, 1, "b"), entry(4, 8, 2, "c")}
	behind := func(r ...api.Record) []api.Record { return append(three[:len(three):len(three)], r...) }
	a, b, c := api.Entry{Term: 1, Data: "a"}, api.Entry{Term: 1, Data: "b"}, api.Entry{Term: 2, Data: "c"}
	for _, x := range []struct {
		r    []api.Record
		want api.Saved
	}{
		{behind(base(4, 5, 1, "n")), api.Saved{Vote: -1, Base: 5, BaseTerm: 1, Data: "n", Entries: []api.Entry{a, b, c}}},
		{behind(base(4, 5, 1, "")), api.Saved{Vote: -1, Base: 5, BaseTerm: 1, Entries: []api.Entry{a, b, c}}},
		{behind(base(4, 5, 2, "n")), api.Saved{Vote: -1, Base: 5, BaseTerm: 2, Data: "n"}},
		{behind(base(4, 5, 0, "n")), api.Saved{Vote: -1, Base: 5, Data: "n"}},
		{behind(base(4, 6, 1, "n")), api.Saved{Vote: -1, Base: 6, BaseTerm: 1, Data: "n", Entries: []api.Entry{b, c}}},
		{behind(base(4, 6, 2, "n")), api.Saved{Vote: -1, Base: 6, BaseTerm: 2, Data: "n"}},
		{behind(base(4, 7, 1, "n")), api.Saved{Vote: -1, Base: 7, BaseTerm: 1, Data: "n", Entries: []api.Entry{c}}},
		{behind(base(4, 8, 2, "n")), api.Saved{Vote: -1, Base: 8, BaseTerm: 2, Data: "n"}},
		{behind(base(4, 8, 1, "n")), api.Saved{Vote: -1, Base: 8, BaseTerm: 1, Data: "n"}},
		{behind(base(4, 9, 2, "n")), api.Saved{Vote: -1, Base: 9, BaseTerm: 2, Data: "n"}},
		{behind(base(4, api.MaxIndex, 0, "n")), api.Saved{Vote: -1, Base: api.MaxIndex, Data: "n"}},
		{behind(base(4, 7, 1, "n"), cut(4, 8), entry(4, 8, 1, "z")), api.Saved{Vote: -1, Base: 7, BaseTerm: 1, Data: "n", Entries: []api.Entry{{Term: 1, Data: "z"}}}},
		{behind(base(4, 7, 0, "n"), entry(4, 8, 0, "z")), api.Saved{Vote: -1, Base: 7, Data: "n", Entries: []api.Entry{{Data: "z"}}}},
		{[]api.Record{base(4, 0, 3, "n")}, api.Saved{Vote: -1, BaseTerm: 3, Data: "n"}},
		{[]api.Record{entry(4, 1, 3, "a"), base(4, 0, 0, "n")}, api.Saved{Vote: -1, Data: "n", Entries: []api.Entry{{Term: 3, Data: "a"}}}},
	} {
		makes(t, x.r, 4, x.want)
	}
}

// TestDataOfWhateverBytes: data is bytes, a text or not, and may look like a record.
func TestDataOfWhateverBytes(t *testing.T) {
	d := made(t, 4096)
	put(t, opened(t, d, 100), entry(0, 1, 1, "inner"))
	inner, _ := d.Bytes(0, 0, d.Used())
	for _, data := range []string{"", "\x00", "\xff\xfe\x80", "R", inner, inner + inner, "\n \n"} {
		makes(t, []api.Record{entry(1, 1, 1, data), base(1, 0, 0, data)}, 1, api.Saved{Vote: -1, Data: data, Entries: []api.Entry{{Term: 1, Data: data}}})
	}
}

// TestLikePlainGroups: many records of all kinds, and what they make behind each.
func TestLikePlainGroups(t *testing.T) {
	for seed := range uint32(20) {
		draw := draws(seed)
		d := made(t, 1<<16)
		limit := 1 + draw(2000)
		l := opened(t, d, max(limit, 60))
		var records []api.Record
		for range 120 {
			r := drawn(records, draw)
			records = append(records, r)
			put(t, l, r)
			if got, want := state(t, l), plainState(records); got != want {
				t.Fatalf("seed %d, %s: %s, not %s", seed, short(r), got, want)
			}
		}
		if got, want := state(t, opened(t, d, limit)), plainState(records); got != want {
			t.Fatalf("seed %d, opened: %s, not %s", seed, got, want)
		}
	}
}
