package meta_test

import (
	"reflect"
	"rookery/api"
	"slices"
	"testing"
)

// every are all slots.
var every = []int{0, 1, 2, 3, 4, 5, 6, 7, 8, 9, 10, 11, 12, 13, 14, 15}

// left are slots without some.
func left(slots []int, gone ...int) []int {
	return slices.DeleteFunc(slices.Clone(slots), func(s int) bool { return slices.Contains(gone, s) })
}

// TestTodo: ahead of each vote and behind it, of each end, and where nothing waits.
func TestTodo(t *testing.T) {
	for seed := range uint64(20) {
		draw := draws(seed)
		b := made(t, 3)
		for round, o := range []api.Op{closes("w"), moving(t, 9, 4), offs("ann"), moves("w", "c", "w", "c")} {
			b.at(api.ErrBusy, round+1, begins(5, round+1, o))
			d, _ := b.m.Todo()
			open := d.Slots
			for _, ended := range []bool{false, true} {
				gone := []int(nil)
				order := shuffled(open, draw)
				for _, slot := range order {
					b.todo(round+1, ended, ended, "", left(open, gone...)...)
					if ended {
						b.err(api.ErrNone, votes(round+1, slot, api.OK))
						b.err(api.OK, ends(round+1, slot))
					} else {
						b.err(api.ErrNone, ends(round+1, slot))
						b.err(api.OK, votes(round+1, slot, api.OK))
					}
					gone = append(gone, slot)
				}
			}
			if d, ok := b.m.Todo(); ok || !reflect.DeepEqual(d.Slots, []int(nil)) || b.m.Waiting() != 0 {
				t.Errorf("Todo: %+v, %t, Waiting: %d", d, ok, b.m.Waiting())
			}
			b.err(api.OK, begins(5, round+1, o))
		}
	}
}

// shuffled are slots in a drawn order.
func shuffled(slots []int, draw func(int) int) []int {
	list := slices.Clone(slots)
	for i := range list {
		j := i + draw(len(list)-i)
		list[i], list[j] = list[j], list[i]
	}
	return list
}

// TestVotesOfOthers: of one that waits behind the first, of one that is gone, of none; of slots that are none of its; of one slot twice.
func TestVotesOfOthers(t *testing.T) {
	b := made(t, 1)
	nothing := func(c api.Command) {
		t.Helper()
		for _, tx := range append([]int{0, -1, 1, 2, 3, 4, 5}, beyond...) {
			if d, ok := b.m.Todo(); !ok || tx != d.Tx {
				c.Tx = tx
				b.err(api.ErrNone, c)
			}
		}
	}
	none := func(tx int, c api.Command, not ...int) {
		t.Helper()
		c.Tx = tx
		for _, slot := range append(append([]int{-1, 16, 17, 9 + 16, 9 - 16}, every...), beyond...) {
			if c.Slot = slot; !slices.Contains(not, slot) {
				b.err(api.ErrNone, c)
			}
		}
	}
	nothing(votes(0, 9, api.OK))
	nothing(ends(0, 9))
	b.at(api.ErrBusy, 1, begins(1, 1, moving(t, 9, 4)))
	b.at(api.ErrBusy, 2, begins(2, 1, moving(t, 9, 9)))
	b.at(api.ErrBusy, 3, begins(3, 1, closes("w")))
	for _, tx := range []int{1, 2} {
		nothing(votes(0, 9, api.OK))
		nothing(ends(0, 9))
		about := []int{4, 9}[2-len(b.p.txs[0].slots):]
		none(tx, votes(0, 0, api.OK), about...)
		none(tx, ends(0, 0))
		if tx == 1 {
			b.err(api.OK, votes(1, 4, api.ErrThere))
			b.err(api.ErrNone, votes(1, 4, api.OK)) // twice, otherwise
			b.err(api.ErrNone, votesWith(1, 4, api.ErrThere, "x"))
			b.err(api.ErrNone, ends(1, 4))
			b.todo(1, false, false, "", 9)
		}
		b.err(api.OK, votes(tx, 9, api.OK))
		b.todo(tx, true, tx == 2, "", about...)
		none(tx, votesWith(0, 0, api.ErrOff, "x"))
		none(tx, ends(0, 0), about...)
		nothing(votes(0, 9, api.OK))
		nothing(ends(0, 9))
		if tx == 1 {
			b.err(api.OK, ends(1, 9))
			b.err(api.ErrNone, ends(1, 9)) // twice
			b.todo(1, true, false, "", 4)
			b.err(api.OK, ends(1, 4))
			b.err(api.ErrNone, ends(1, 4))
		} else {
			b.err(api.OK, ends(2, 9))
		}
	}
	b.err(api.ErrThere, begins(1, 1, closes("v")))
	b.err(api.OK, begins(2, 1, closes("v")))
	b.todo(3, false, false, "", every...)
}

// TestVotesOfAll: with each vote OK but one, or two others, in any order of the slots: it is the one of the first slot.
func TestVotesOfAll(t *testing.T) {
	seq := 0
	b := made(t, 1)
	run := func(order []int, refused map[int]api.Errno, want api.Errno) {
		t.Helper()
		seq++
		b.at(api.ErrBusy, seq, begins(5, seq, offs("ann")))
		for i, slot := range order {
			b.todo(seq, false, false, "", left(every, order[:i]...)...)
			b.err(api.OK, votes(seq, slot, refused[slot]))
		}
		b.todo(seq, true, want == api.OK, "", every...)
		b.finish()
		b.err(want, begins(5, seq, offs("ann")))
	}
	draw := draws(14)
	for one := range 16 {
		for _, order := range [][]int{every, slices.Concat(every[one:], every[:one]), reversed(every), shuffled(every, draw)} {
			run(order, nil, api.OK)
			run(order, map[int]api.Errno{one: api.ErrOff}, api.ErrOff)
			run(order, map[int]api.Errno{one: -1}, -1)
			for other := one + 1; other < 16; other += 5 {
				run(order, map[int]api.Errno{one: api.ErrOff, other: api.ErrNone}, api.ErrOff)
				run(order, map[int]api.Errno{one: -5, other: 1 << 50}, -5)
			}
		}
	}
}

// reversed are slots in the other order.
func reversed(list []int) []int {
	list = slices.Clone(list)
	slices.Reverse(list)
	return list
}

// TestVotesOfMoves: the vote of the channel that it moves goes ahead, whichever slot is the first one, and whoever votes first.
func TestVotesOfMoves(t *testing.T) {
	seq := 0
	b := made(t, 1)
	for _, pair := range [][2]int{{9, 4}, {4, 9}, {0, 15}, {15, 0}, {7, 8}, {8, 7}} {
		from, to := pair[0], pair[1]
		for _, order := range [][]int{{from, to}, {to, from}} {
			for _, x := range []struct{ from, to, want api.Errno }{
				{api.OK, api.OK, api.OK},
				{api.ErrNone, api.OK, api.ErrNone},
				{api.OK, api.ErrThere, api.ErrThere},
				{api.ErrNone, api.ErrThere, api.ErrNone},
				{api.ErrThere, api.ErrNone, api.ErrThere},
				{-1, -2, -1},
				{api.OK, -2, -2},
			} {
				seq++
				b.at(api.ErrBusy, seq, begins(5, seq, moving(t, from, to)))
				for i, slot := range order {
					b.todo(seq, false, false, "", left([]int{min(from, to), max(from, to)}, order[:i]...)...)
					e := x.from
					if slot == to {
						e = x.to
					}
					b.err(api.OK, votes(seq, slot, e))
				}
				b.todo(seq, true, x.want == api.OK, "", min(from, to), max(from, to))
				for _, slot := range order {
					b.err(api.OK, ends(seq, slot))
				}
				b.err(x.want, begins(5, seq, offs("ann")))
			}
		}
	}
	for _, e := range []api.Errno{api.OK, api.ErrNone, api.ErrThere, 99, -99} { // both channels in one slot
		for slot := range 16 {
			seq++
			b.at(api.ErrBusy, seq, begins(5, seq, moving(t, slot, slot)))
			b.todo(seq, false, false, "", slot)
			b.err(api.OK, votes(seq, slot, e))
			b.todo(seq, true, e == api.OK, "", slot)
			b.err(api.OK, ends(seq, slot))
			b.err(e, begins(5, seq, offs("ann")))
		}
	}
}

// TestDataOfVotes: with one vote, with another one too, and none with it.
func TestDataOfVotes(t *testing.T) {
	b := made(t, 1)
	b.at(api.ErrBusy, 1, begins(1, 1, closes("w")))
	b.at(api.ErrBusy, 2, begins(2, 1, moving(t, 4, 9)))
	b.err(api.OK, votes(1, 0, api.OK))
	b.todo(1, false, false, "", left(every, 0)...)
	b.err(api.OK, votesWith(1, 5, api.OK, "one"))
	b.todo(1, false, false, "one", left(every, 0, 5)...)
	b.err(api.OK, votes(1, 6, api.OK))
	b.todo(1, false, false, "one", left(every, 0, 5, 6)...)
	b.err(api.OK, votesWith(1, 2, api.ErrOff, "\x00\xff")) // also where it refuses
	b.todo(1, false, false, "\x00\xff", left(every, 0, 2, 5, 6)...)
	b.err(api.ErrNone, votesWith(1, 2, api.OK, "twice"))
	b.err(api.ErrNone, votesWith(2, 4, api.OK, "another one's"))
	b.err(api.ErrNone, votesWith(1, 16, api.OK, "no slot's"))
	b.decide(api.OK)
	b.todo(1, true, false, "\x00\xff", every...)
	b.err(api.ErrNone, votesWith(1, 2, api.OK, "too late"))
	b.err(api.OK, ends(1, 2))
	b.todo(1, true, false, "\x00\xff", left(every, 2)...)
	b.finish()
	b.todo(2, false, false, "", 4, 9) // the next one has none of it
	long := string(make([]byte, 1<<18+1))
	b.err(api.OK, votesWith(2, 9, api.OK, long))
	b.err(api.OK, votes(2, 4, api.OK))
	b.todo(2, true, true, long, 4, 9)
	b.finish()
}

// TestOneBehindTheOther is Me3 by hand: each is answered once, in the order in which they began.
func TestOneBehindTheOther(t *testing.T) {
	b := made(t, 1)
	o := moves("w", "c", "w", "c")
	for i := range 10 {
		b.at(api.ErrBusy, i+1, begins(9-i, 1, o))
	}
	for i := range 10 {
		for j := range 10 {
			want := api.ErrBusy
			if j < i {
				want = api.Errno(100 + j)
			}
			b.err(want, begins(9-j, 1, o))
		}
		d, _ := b.m.Todo()
		if d.Tx != i+1 || d.Id != (api.Id{Session: 9 - i, Seq: 1}) || b.m.Waiting() != 10-i {
			t.Errorf("Todo: %+v, Waiting: %d", d, b.m.Waiting())
		}
		b.decide(api.Errno(100 + i))
		b.finish()
	}
	b.at(api.ErrBusy, 11, begins(9, 2, o))
}
