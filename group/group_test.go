package group_test

import (
	"math"
	"rookery/api"
	"rookery/group"
	"strings"
	"testing"
)

// fresh is how a part is saved that never did anything.
var fresh = api.Saved{Vote: -1}

// beyond are numbers far out.
var beyond = []int{math.MinInt, math.MinInt + 1, -1 << 40, -1 << 32, -1 << 31, -2, -1, 1 << 31, 1 << 41, 1<<48 + 1, 1 << 62, math.MaxInt - 1, math.MaxInt}

// refuses asks that New answers an error, and nothing beside it.
func refuses(t *testing.T, of, groups, id, nodes int, s api.Saved, draw int, want api.Errno) {
	t.Helper()
	if g, e := group.New(of, groups, id, nodes, s, draw); g != nil || e != want {
		t.Errorf("New(%d, %d, %d, %d, %+v, %d): %v, %d, not %d", of, groups, id, nodes, s, draw, g, e, want)
	}
}

// TestNewOfGroups: groups of shards are 1 to 8, and a group is one of them, or the meta group.
func TestNewOfGroups(t *testing.T) {
	for _, groups := range append([]int{0, 1, 2, 3, 7, 8, 9, 10}, beyond...) {
		for _, of := range append([]int{0, 1, 2, 3, 4, 7, 8, 9, 10, groups - 1, groups, groups + 1}, beyond...) {
			if groups < 1 || groups > 8 || of < 0 || of > groups {
				refuses(t, of, groups, 0, 1, fresh, 0, api.ErrArg)
				refuses(t, of, groups, 0, 1, api.Saved{Vote: -1, Data: "none"}, 0, api.ErrArg)
				refuses(t, of, groups, 1, 1, fresh, 0, api.ErrArg)
				continue
			}
			b := made(t, of, groups, 0, 1, fresh, 0)
			if s, _ := b.g.State(); s != bytesOf(t, of, groups) {
				t.Errorf("New(%d, %d): %q", of, groups, s)
			}
			refuses(t, of, groups, 0, 1, api.Saved{Vote: -1, Data: "none"}, 0, api.ErrCommand)
		}
	}
}

// TestNewOfWhatLayer7Refuses: each other argument, alone, and beside Data that is no machine's.
func TestNewOfWhatLayer7Refuses(t *testing.T) {
	type args struct {
		id, nodes int
		s         api.Saved
		draw      int
	}
	right := args{1, 3, api.Saved{Term: 5, Vote: 2, Base: 3, BaseTerm: 4, Entries: []api.Entry{{Term: 4}, {Term: 5}}}, 0}
	wrong := map[string]func(*args){
		"id below 0":       func(a *args) { a.id = -1 },
		"id of none":       func(a *args) { a.id = 3 },
		"nodes 0":          func(a *args) { a.id, a.nodes, a.s.Vote = 0, 0, -1 },
		"nodes 8":          func(a *args) { a.nodes = 8 },
		"draw below 0":     func(a *args) { a.draw = -1 },
		"term below 0":     func(a *args) { a.s = api.Saved{Term: -1, Vote: -1} },
		"term too high":    func(a *args) { a.s.Term = api.MaxIndex + 1 },
		"vote below -1":    func(a *args) { a.s.Vote = -2 },
		"vote for none":    func(a *args) { a.s.Vote = 3 },
		"data too long":    func(a *args) { a.s.Data = strings.Repeat("x", api.MaxRecord+1) },
		"base below 0":     func(a *args) { a.s.Base = -1 },
		"base too high":    func(a *args) { a.s.Base, a.s.Entries = api.MaxIndex+1, nil },
		"base's term":      func(a *args) { a.s.BaseTerm = -1 },
		"terms go down":    func(a *args) { a.s.Entries = []api.Entry{{Term: 5}, {Term: 4}} },
		"below the base's": func(a *args) { a.s.Entries[0].Term = 3 },
		"above the term":   func(a *args) { a.s.Term = 4 },
		"entry too long":   func(a *args) { a.s.Entries[0].Data = strings.Repeat("x", api.MaxRecord+1) },
		"no index is left": func(a *args) { a.s.Base = api.MaxIndex },
	}
	for of := range 3 {
		made(t, of, 2, right.id, right.nodes, right.s, right.draw)
		for what, spoil := range wrong {
			for _, data := range []string{"", "none", bytesOf(t, of, 2)} {
				a := right
				a.s.Data = data
				a.s.Entries = append([]api.Entry{}, right.s.Entries...)
				spoil(&a)
				if g, e := group.New(of, 2, a.id, a.nodes, a.s, a.draw); g != nil || e != api.ErrArg {
					t.Errorf("%s: %v, %d", what, g, e)
				}
				refuses(t, 3, 2, a.id, a.nodes, a.s, a.draw, api.ErrArg)
			}
		}
	}
	for nodes := 1; nodes <= api.MaxNodes; nodes++ {
		made(t, 1, 1, nodes-1, nodes, fresh, math.MaxInt)
	}
}

// TestNewOfData: what a base holds is the machine's bytes, the empty one a new machine; all else is refused.
func TestNewOfData(t *testing.T) {
	c := channel(t, 1)
	shards := bytesOf(t, 1, 2, does(1, 1, makes(c)), does(1, 2, joins(c, "ann")))
	heads := bytesOf(t, 0, 2, begins(1, 1, closes("w")))
	for of, may := range [][]string{
		{heads, bytesOf(t, 0, 2), bytesOf(t, 0, 7)},
		{shards, bytesOf(t, 1, 2), bytesOf(t, 2, 2), bytesOf(t, 3, 8)},
	} {
		other := []string{shards, heads}[of]
		for _, s := range append(may, "") {
			for _, base := range []int{0, 1, 9} {
				b := made(t, of, 2, 0, 1, api.Saved{Term: 4, Vote: -1, Base: base, BaseTerm: 3, Data: s}, 0)
				if s == "" {
					s = bytesOf(t, of, 2)
				}
				if got, e := b.g.State(); got != s || e != api.OK || b.g.Done() != base {
					t.Errorf("State: %q, %d; Done: %d", got, e, b.g.Done())
				}
			}
		}
		for _, s := range []string{other, "none", "m", "t", "\x00", may[0][1:], may[0][:len(may[0])-1], may[0] + "x", put(t, does(1, 1, makes(c)))} {
			refuses(t, of, 2, 0, 1, api.Saved{Term: 4, Vote: -1, Base: 9, BaseTerm: 3, Data: s}, 0, api.ErrCommand)
			refuses(t, of, 2, 0, 1, api.Saved{Vote: -1, Data: s}, 0, api.ErrCommand)
		}
	}
}

// TestBehindNew: nothing is done behind the base, nothing was recorded, nobody leads.
func TestBehindNew(t *testing.T) {
	c := channel(t, 1)
	data := bytesOf(t, 1, 2, does(1, 1, makes(c)))
	s := api.Saved{Term: 5, Vote: 0, Base: 7, BaseTerm: 3, Data: data, Entries: []api.Entry{{Term: 3, Data: put(t, does(1, 2, joins(c, "ann")))}, {Term: 5}}}
	for nodes := range 3 {
		b := made(t, 1, 2, 0, 1+nodes, s, 4)
		if len(b.records()) != 0 || b.g.Leads() || b.g.Done() != 7 {
			t.Errorf("Leads: %v; Done: %d", b.g.Leads(), b.g.Done())
		}
		if state, _ := b.g.State(); state != data {
			t.Errorf("State: %q, not %q", state, data)
		}
		if got := b.g.Saved(); !sameSaved(got, s) {
			t.Errorf("Saved: %+v, not %+v", got, s)
		}
		if b.compact(0) {
			t.Error("Compact: nothing was done")
		}
	}
}

// TestEntriesBehindTheBase: they are done as soon as they are committed, whatever their data is, and never sooner.
func TestEntriesBehindTheBase(t *testing.T) {
	c := channel(t, 1)
	join, post := does(1, 2, joins(c, "ann")), does(1, 3, posts(c, "ann", "hi"))
	s := api.Saved{Term: 3, Vote: -1, Base: 7, BaseTerm: 2, Data: bytesOf(t, 1, 2, does(1, 1, makes(c)))}
	for _, data := range []string{put(t, join), "", "none", put(t, post) + "x", put(t, post), put(t, does(2, 1, posts(c, "bob", "no")))} {
		s.Entries = append(s.Entries, api.Entry{Term: 3, Data: data})
	}
	b := made(t, 1, 2, 0, 1, s, 12)
	for range 11 {
		if _, list := b.tick(0); len(list) != 0 {
			t.Fatalf("it does not lead yet: %v", list)
		}
	}
	ok := api.Reply{}
	want := []group.Applied{
		{Index: 8, Command: join, Reply: ok}, {Index: 9, Reply: ok}, {Index: 10, Reply: ok}, {Index: 11, Reply: ok},
		{Index: 12, Command: post, Reply: ok}, {Index: 13, Command: does(2, 1, posts(c, "bob", "no")), Reply: api.Reply{Err: api.ErrMember}},
		{Index: 14, Reply: ok},
	}
	if _, list := b.tick(0); !sameApplied(list, want) || b.g.Done() != 14 || !b.g.Leads() {
		t.Errorf("%v, not %v; Done: %d", list, want, b.g.Done())
	}
	if _, list := b.tick(0); len(list) != 0 {
		t.Errorf("again: %v", list)
	}
}

// TestNoPart: nothing, ErrArg, false, 0.
func TestNoPart(t *testing.T) {
	var none group.Group
	for _, g := range []*group.Group{nil, &none} {
		if out, list := g.Receive(api.Message{Kind: api.MsgVote, Group: 1, From: 1, Term: 1}); out != nil || list != nil {
			t.Errorf("Receive: %v, %v", out, list)
		}
		for range 12 {
			if out, list := g.Tick(3); out != nil || list != nil {
				t.Errorf("Tick: %v, %v", out, list)
			}
		}
		for _, c := range []api.Command{{}, {Tx: -1}, does(1, 1, makes("c"))} {
			if n, out, list, e := g.Propose(c); n != 0 || out != nil || list != nil || e != api.ErrArg {
				t.Errorf("Propose: %d, %v, %v, %d", n, out, list, e)
			}
		}
		for _, entries := range append([]int{0, 1}, beyond...) {
			if g.Compact(entries) {
				t.Error("Compact")
			}
		}
		if g.Records() != nil || g.Leads() || g.Done() != 0 || !sameSaved(g.Saved(), api.Saved{}) {
			t.Errorf("%v, %v, %d, %v", g.Records(), g.Leads(), g.Done(), g.Saved())
		}
		if s, e := g.State(); s != "" || e != api.ErrArg {
			t.Errorf("State: %q, %d", s, e)
		}
	}
}
