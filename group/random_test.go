package group_test

import (
	"rookery/api"
	"rookery/raft"
	"slices"
	"testing"
)

// letters draws letters to a part, many of which no leader by the rules sends, and some of which may not be.
type letters struct {
	draw func(int) int
	of   int
	pool []string // of data
}

// near is a number not far from another one, or, seldom, one far out.
func (l letters) near(n int) int {
	if l.draw(60) == 0 {
		return beyond[l.draw(len(beyond))]
	}
	return n + l.draw(5) - 2
}

// to draws one to a part of three.
func (l letters) to(b *both) api.Message {
	s := b.g.Saved()
	last := s.Base + len(s.Entries)
	kind := []int{api.MsgVote, api.MsgVoted, api.MsgAppend, api.MsgAppend, api.MsgAppend, api.MsgAppend, api.MsgAppend, api.MsgAppended, api.MsgSnap}[l.draw(9)]
	m := api.Message{Kind: kind, Group: l.of, From: 1 + l.draw(2), Term: max(1, l.near(s.Term)), Commit: max(0, l.near(last)), Ok: l.draw(2) == 0}
	m.Index = max(0, l.near([]int{last, last, s.Base, b.g.Done()}[l.draw(4)]))
	m.At = max(0, l.near(s.Term))
	if i := m.Index - s.Base; i == 0 {
		m.At = s.BaseTerm
	} else if i > 0 && i <= len(s.Entries) && l.draw(4) > 0 {
		m.At = s.Entries[i-1].Term
	}
	if l.draw(3) > 0 {
		m.Term = max(m.Term, m.At)
	}
	if m.Kind == api.MsgAppend {
		for range l.draw(4) {
			m.Entries = append(m.Entries, api.Entry{Term: m.At + l.draw(8)/7, Data: l.pool[l.draw(len(l.pool))]})
		}
		slices.SortFunc(m.Entries, func(a, b api.Entry) int { return a.Term - b.Term })
	} else if m.Kind == api.MsgSnap {
		m.Data = l.pool[l.draw(len(l.pool))]
	}
	switch l.draw(60) {
	case 0:
		m.Kind = l.near(3)
	case 1:
		m.Group = l.near(l.of)
	case 2:
		m.From = l.near(1)
	case 3:
		m.To = l.near(0)
	case 4:
		m.Entries = make([]api.Entry, 17)
	}
	return m
}

// TestAnyCalls: of any letters, ticks, commands, and new beginnings, in any order, what the plain part does is done.
func TestAnyCalls(t *testing.T) {
	c := channel(t, 1)
	based, cut, done, ahead := 0, 0, 0, 0
	for seed := range uint64(120) {
		of := int(seed % 3)
		draw := draws(seed + 1000)
		asks := []api.Command{does(1, 1, makes(c)), does(1, 2, joins(c, "ann")), begins(1, 1, closes("w")), {Kind: api.CmdPlan, Slot: 1, Group: 2}, {Tx: -1}}
		l := letters{draw, of, []string{"", "none", bytesOf(t, 0, 2, asks...), bytesOf(t, 1, 2, asks...), put(t, asks[0]), put(t, asks[1]), put(t, asks[2]), put(t, asks[3])}}
		b := made(t, of, 2, 0, 3, fresh, 0)
		for range 400 {
			was := b.g.Done()
			switch d := draw(20); {
			case d < 3:
				_, did := b.tick(draw(40) - 3)
				done += len(did)
			case d < 5:
				b.propose(asks[draw(len(asks))])
			case d < 6:
				b.compact(draw(5) - 1)
			case d < 7:
				if s := b.g.Saved(); mayBegin(of, s) != api.OK {
					refuses(t, of, 2, 0, 3, s, 0, mayBegin(of, s))
				} else if draw(3) == 0 {
					b = b.begin(0, 3, draw(30))
				}
			default:
				_, did := b.receive(l.to(b))
				done += len(did)
				if len(did) == 0 && b.g.Done() > was {
					based++
				}
			}
			if draw(3) > 0 {
				continue
			}
			for _, r := range b.records() {
				if r.Kind == api.RecCut {
					cut++
				}
			}
			if s := b.g.Saved(); s.Base+len(s.Entries) > b.g.Done() {
				ahead++
			}
		}
	}
	if based < 300 || cut < 500 || done < 3000 || ahead < 1000 {
		t.Errorf("%d bases, %d cuts, %d done, %d times something was ahead", based, cut, done, ahead)
	}
}

// mayBegin is what New answers: letters that no leader sends may have brought a base that it refuses.
func mayBegin(of int, s api.Saved) api.Errno {
	if _, e := raft.New(of, 0, 3, s, 0); e != api.OK {
		return e
	}
	if _, ok := from(of, s.Data); s.Data != "" && !ok {
		return api.ErrCommand
	}
	return api.OK
}
