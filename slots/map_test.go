package slots_test

import (
	"math"
	"rookery/api"
	"rookery/slots"
	"slices"
	"strings"
	"testing"
)

func TestNewTakesOneUpToEightGroups(t *testing.T) {
	for _, groups := range append([]int{-9, -8, -7, -3, -1, 0, 9, 10, 16, 17}, beyond...) {
		if m, e := slots.New(groups); m != nil || e != api.ErrArg {
			t.Errorf("New(%d): %v, %d", groups, m, e)
		}
	}
	for groups := 1; groups <= 8; groups++ {
		b := made(t, groups)
		b.same()
		for slot := range 16 {
			want := 1 + int(math.Floor(float64(slot)*float64(groups)/16))
			if group, epoch, e := b.m.Owner(slot); group != want || epoch != 1 || e != api.OK {
				t.Errorf("of %d groups the slot %d: %d, %d, %d, not %d", groups, slot, group, epoch, e, want)
			}
		}
	}
}

// TestNewOfEachSize: the groups of the slots, written out.
func TestNewOfEachSize(t *testing.T) {
	for groups, want := range []string{1: "1111111111111111", 2: "1111111122222222", 3: "1111112222233333", 4: "1111222233334444", 5: "1111222333444555", 6: "1112223344455566", 7: "1112233444556677", 8: "1122334455667788"} {
		if groups == 0 {
			continue
		}
		m, _ := slots.New(groups)
		var got strings.Builder
		for slot := range 16 {
			group, _, _ := m.Owner(slot)
			got.WriteByte('0' + byte(group))
		}
		if got.String() != want {
			t.Errorf("New(%d): %s, not %s", groups, got.String(), want)
		}
	}
}

func TestOwnerOfSlotsThatThereAreNot(t *testing.T) {
	b := made(t, 8)
	for _, slot := range append([]int{-17, -16, -15, -1, 16, 17, 31, 32}, beyond...) {
		if group, epoch, e := b.m.Owner(slot); group != 0 || epoch != 0 || e != api.ErrArg {
			t.Errorf("Owner(%d): %d, %d, %d", slot, group, epoch, e)
		}
	}
	for _, slot := range []int{0, 15} {
		if group, epoch, e := b.m.Owner(slot); group != 1+slot/2 || epoch != 1 || e != api.OK {
			t.Errorf("Owner(%d): %d, %d, %d", slot, group, epoch, e)
		}
	}
}

// TestGiveOfEachSlotToEachGroup: also of those that there are not; what is refused changes nothing.
func TestGiveOfEachSlotToEachGroup(t *testing.T) {
	for groups := 1; groups <= 8; groups++ {
		for slot := -2; slot < 18; slot++ {
			for group := -2; group < 12; group++ {
				b := made(t, groups)
				had, _, e := b.p.owner(slot)
				want := api.OK
				switch {
				case e != api.OK, group < 1, group > 8:
					want = api.ErrArg
				case group == had:
					want = api.ErrThere
				}
				b.tells(slot, group, want)
			}
		}
	}
}

// TestGiveToGroupsThatNewDidNotCount: a map of one group may give slots to all eight.
func TestGiveToGroupsThatNewDidNotCount(t *testing.T) {
	b := made(t, 1)
	for group := 2; group <= 8; group++ {
		b.tells(group, group, api.OK)
	}
	b.tells(0, 8, api.OK)
	b.tells(15, 8, api.OK)
	b.tells(0, 9, api.ErrArg)
	b.tells(0, 0, api.ErrArg)
}

func TestGiveOfNumbersFarOut(t *testing.T) {
	b := made(t, 3)
	for _, n := range beyond {
		b.tells(n, 1, api.ErrArg)
		b.tells(0, n, api.ErrArg)
		b.tells(15, n, api.ErrArg)
		b.tells(n, n, api.ErrArg)
	}
}

// TestGiveThereAndBack: each gift is an epoch, a gift of what it has is none.
func TestGiveThereAndBack(t *testing.T) {
	b := made(t, 2)
	for i := range 300 {
		group := 2 - i%2
		b.tells(4, group, api.OK)
		b.tells(4, group, api.ErrThere)
		if _, epoch, _ := b.m.Owner(4); epoch != 2+i {
			t.Fatalf("behind %d gifts the epoch is %d", i+1, epoch)
		}
	}
	for _, slot := range []int{0, 3, 5, 15} {
		if _, epoch, _ := b.m.Owner(slot); epoch != 1 {
			t.Errorf("the epoch of the slot %d, which was not given, is %d", slot, epoch)
		}
	}
}

// last is a plain map of one group whose slot 7 has an epoch.
func last(epoch int) plain {
	p := plainNew(1)
	p.epochs[7] = epoch
	return p
}

// TestGiveUpToTheLastEpoch: 2^31 - 1 is one, and no more.
func TestGiveUpToTheLastEpoch(t *testing.T) {
	b := read(t, last(1<<31-2))
	b.tells(7, 1, api.ErrThere)
	b.tells(7, 2, api.OK)
	if group, epoch, e := b.m.Owner(7); group != 2 || epoch != 1<<31-1 || e != api.OK {
		t.Errorf("Owner(7): %d, %d, %d", group, epoch, e)
	}
	for _, b := range []both{b, read(t, *b.p)} {
		for range 2 {
			b.tells(7, 1, api.ErrArg)
			b.tells(7, 8, api.ErrArg)
			b.tells(7, 2, api.ErrThere)
		}
		b.tells(6, 2, api.OK)
		b.tells(8, 2, api.OK)
	}
	b = read(t, last(1<<31-3))
	for i, want := range []api.Errno{api.OK, api.OK, api.ErrArg, api.ErrArg} {
		b.tells(7, 2+i, want)
	}
}

// TestErrorsInTheirOrder: what several errors apply to, in a map whose slot 7 is of group 1 and has its last epoch.
func TestErrorsInTheirOrder(t *testing.T) {
	for _, c := range []struct {
		what        string
		slot, group int
		e           api.Errno
	}{
		{"a slot that is none, and a group that is none", -1, 0, api.ErrArg},
		{"a slot that is none, and a group that is none", 16, 9, api.ErrArg},
		{"a slot that is none, and a group that has all", 16, 1, api.ErrArg},
		{"a slot that is none, and a group that has all", -1, 1, api.ErrArg},
		{"a group that is none, at the last epoch", 7, 9, api.ErrArg},
		{"what it has, at the last epoch", 7, 1, api.ErrThere},
		{"the last epoch", 7, 2, api.ErrArg},
	} {
		b := read(t, last(1<<31-1))
		if e := b.give(c.slot, c.group); e != c.e {
			t.Errorf("%s: %d, not %d", c.what, e, c.e)
		}
	}
}

// rangesAre asks for ranges.
func (b both) rangesAre(want ...slots.Range) {
	b.Helper()
	if got := b.m.Ranges(); !slices.Equal(got, want) {
		b.Errorf("Ranges: %v, not %v", got, want)
	}
}

func TestRanges(t *testing.T) {
	b := made(t, 1)
	b.rangesAre(slots.Range{Low: 0, High: 15, Group: 1})
	b.tells(0, 2, api.OK)
	b.rangesAre(slots.Range{Low: 0, High: 0, Group: 2}, slots.Range{Low: 1, High: 15, Group: 1})
	b.tells(15, 2, api.OK)
	b.rangesAre(slots.Range{Low: 0, High: 0, Group: 2}, slots.Range{Low: 1, High: 14, Group: 1}, slots.Range{Low: 15, High: 15, Group: 2})
	b.tells(7, 2, api.OK)
	b.rangesAre(slots.Range{Low: 0, High: 0, Group: 2}, slots.Range{Low: 1, High: 6, Group: 1}, slots.Range{Low: 7, High: 7, Group: 2}, slots.Range{Low: 8, High: 14, Group: 1}, slots.Range{Low: 15, High: 15, Group: 2})
	b.tells(7, 1, api.OK) // the same group again, though of another epoch
	b.rangesAre(slots.Range{Low: 0, High: 0, Group: 2}, slots.Range{Low: 1, High: 14, Group: 1}, slots.Range{Low: 15, High: 15, Group: 2})
	for slot := 1; slot < 15; slot++ {
		b.tells(slot, 2, api.OK)
	}
	b.rangesAre(slots.Range{Low: 0, High: 15, Group: 2})
}

// TestRangesOfAllByTurns: sixteen ranges of one slot each.
func TestRangesOfAllByTurns(t *testing.T) {
	for turns := 2; turns <= 8; turns++ {
		b := made(t, 1)
		var want []slots.Range
		for slot := range 16 {
			b.give(slot, 1+slot%turns)
			want = append(want, slots.Range{Low: slot, High: slot, Group: 1 + slot%turns})
		}
		b.rangesAre(want...)
	}
}

func TestRangesAreNewMemory(t *testing.T) {
	b := made(t, 3)
	list := b.m.Ranges()
	for i := range list {
		list[i] = slots.Range{Low: -1, High: -1, Group: -1}
	}
	_ = append(list, slots.Range{})
	b.same()
	list = b.m.Ranges()
	was := slices.Clone(list)
	b.tells(0, 8, api.OK)
	if !slices.Equal(list, was) {
		t.Errorf("%v became %v", was, list)
	}
}

// TestAMapIsAPlainOneWhateverIsGiven: behind any gives.
func TestAMapIsAPlainOneWhateverIsGiven(t *testing.T) {
	for seed := range uint64(60) {
		draw := draws(seed)
		b := made(t, 1+draw(8))
		most := 1 + draw(10) // with few groups neighbours meet often
		for range 200 {
			b.give(draw(20)-2, draw(most+1))
			if draw(20) == 0 {
				b = read(t, *b.p)
			}
		}
	}
}

// covers asks that ranges cover all slots, each once, that no two neighbours are of one group, and that each is its owner's.
func covers(t *testing.T, m *slots.Map) {
	t.Helper()
	next, before := 0, 0
	for _, r := range m.Ranges() {
		if r.Low != next || r.High < r.Low || r.Group == before {
			t.Errorf("%v behind the slot %d of group %d", r, next-1, before)
		}
		for slot := r.Low; slot <= r.High; slot++ {
			if group, _, e := m.Owner(slot); group != r.Group || e != api.OK {
				t.Errorf("the slot %d of %v: %d, %d", slot, r, group, e)
			}
		}
		next, before = r.High+1, r.Group
	}
	if next != 16 {
		t.Errorf("the ranges end at %d", next-1)
	}
}

// TestEachSlotHasOneOwner is Sl4: each slot has one owner, of 1 to 8; an epoch rises by one with each new owner, and never else.
func TestEachSlotHasOneOwner(t *testing.T) {
	for seed := range uint64(40) {
		draw := draws(seed + 1000)
		m := made(t, 1+draw(8)).m
		covers(t, m)
		var groups, epochs [16]int
		for slot := range 16 {
			groups[slot], epochs[slot], _ = m.Owner(slot)
		}
		for range 300 {
			m.Give(draw(18)-1, draw(10))
			covers(t, m)
			for slot := range 16 {
				group, epoch, e := m.Owner(slot)
				rise := 0
				if group != groups[slot] {
					rise = 1
				}
				if e != api.OK || group < 1 || group > 8 || epoch != epochs[slot]+rise {
					t.Fatalf("the slot %d: %d, %d, %d behind %d, %d", slot, group, epoch, e, groups[slot], epochs[slot])
				}
				groups[slot], epochs[slot] = group, epoch
			}
		}
	}
}

// refuses asks that a map which New and From did not give answers nothing, whatever it is asked.
func refuses(t *testing.T, m *slots.Map) {
	t.Helper()
	for _, n := range append([]int{0, 1, 8, 9, 15, 16}, beyond...) {
		if group, epoch, e := m.Owner(n); group != 0 || epoch != 0 || e != api.ErrArg {
			t.Errorf("Owner(%d): %d, %d, %d", n, group, epoch, e)
		}
		for _, slot := range []int{-1, 0, 1, 15, 16} {
			if e := m.Give(slot, n); e != api.ErrArg {
				t.Errorf("Give(%d, %d): %d", slot, n, e)
			}
		}
	}
	if list := m.Ranges(); len(list) != 0 {
		t.Errorf("Ranges: %v", list)
	}
	if s, e := m.Bytes(); s != "" || e != api.ErrArg {
		t.Errorf("Bytes: %x, %d", s, e)
	}
}

func TestAMapThatNewAndFromDidNotGive(t *testing.T) {
	refuses(t, nil)
	refuses(t, &slots.Map{})
	refuses(t, new(slots.Map))
	for _, groups := range []int{-1, 0, 9} {
		m, _ := slots.New(groups)
		refuses(t, m)
	}
	m, _ := slots.From("S")
	refuses(t, m)
}

// TestMapsAreApart: what is given in one map is not seen in another one.
func TestMapsAreApart(t *testing.T) {
	a, b := made(t, 4), made(t, 4)
	c := read(t, *a.p)
	a.tells(0, 2, api.OK)
	b.same()
	c.same()
	c.tells(0, 3, api.OK)
	b.tells(15, 1, api.OK)
	a.same()
	b.same()
	c.same()
}
