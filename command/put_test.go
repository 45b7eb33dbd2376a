package command_test

import (
	"math"
	"rookery/api"
	"rookery/command"
	"slices"
	"strings"
	"testing"
)

// TestKnownBytes: each of the four, written out byte by byte.
func TestKnownBytes(t *testing.T) {
	op := api.Op{Kind: 1, Space: "s", Channel: "ch", User: "u", Text: "te", ToSpace: "v", To: "d", From: 2, Most: 3}
	const opBytes = "\x01" + "\x01s" + "\x02ch" + "\x01u" + "\x02te" + "\x01v" + "\x01d" + "\x02" + "\x03"
	c := api.Command{Kind: 4, Id: api.Id{Session: 5, Seq: 300}, Op: op, Tx: 6, Plan: 7, Slot: 8, Epoch: 9, Group: 10, Ok: true, Err: 140, Data: "da"}
	m := api.Message{Kind: 1, Group: 2, From: 3, To: 4, Term: 5, Index: 6, At: 7, Commit: 8, Ok: true, Entries: []api.Entry{{Term: 9, Data: "e"}, {Term: 128}}, Data: "da"}
	r := api.Reply{Err: 92, At: 16384, Posts: []api.Post{{User: "ann", Text: "hi"}, {}, {Text: "\xff"}}}
	for _, k := range []struct {
		x    thing
		want string
	}{
		{&askThing{api.Id{Session: 5, Seq: 1}, api.Op{Kind: api.OpClose, Space: "w"}}, "Q\x05\x01\x06\x01w" + strings.Repeat("\x00", 7)},
		{&commandThing{}, "C" + strings.Repeat("\x00", 20)},
		{&messageThing{}, "M" + strings.Repeat("\x00", 11)},
		{&askThing{}, "Q" + strings.Repeat("\x00", 11)},
		{&answerThing{}, "A" + strings.Repeat("\x00", 5)},
		{&commandThing{c}, "C\x04\x05\xac\x02\x06\x07\x08\x09\x0a\x01\x8c\x01" + opBytes + "\x02da"},
		{&messageThing{m}, "M\x01\x02\x03\x04\x05\x06\x07\x08\x01\x02\x09\x01e\x80\x01\x00\x02da"},
		{&askThing{api.Id{Session: 5, Seq: 300}, op}, "Q\x05\xac\x02" + opBytes},
		{&answerThing{api.Id{Session: 5, Seq: 300}, r}, "A\x05\xac\x02\x5c\x80\x80\x01\x03\x03ann\x02hi\x00\x00\x00\x01\xff"},
	} {
		if s, e := k.x.put(); s != k.want || e != api.OK {
			t.Errorf("%T: %x, %d, not %x", k.x, s, e, k.want)
		}
		if y, e := k.x.from(k.want); !same(k.x, y) || e != api.OK {
			t.Errorf("%T: %x is read as %v, %d", k.x, k.want, y, e)
		}
		may(t, "as known", k.x)
	}
}

// TestThereAndBack: with all fields nought, and with no field nought.
func TestThereAndBack(t *testing.T) {
	for _, x := range noughts() {
		may(t, "noughts", x)
	}
	for _, x := range wholes() {
		may(t, "whole", x)
	}
}

// TestNumbersAtTheEdges: each alone, the other fields nought and not.
func TestNumbersAtTheEdges(t *testing.T) {
	good := []int{0, 1, 2, 126, 127, 128, 129, 255, 256, 16383, 16384, 1<<31 - 1, 1 << 31, 1 << 32, 1<<35 - 1, 1 << 35, most - 1, most}
	bad := []int{math.MinInt, math.MinInt + 1, -most, -1 << 32, -1 << 31, -128, -2, -1, most + 1, most + 2, 1 << 41, 1<<42 - 1, 1 << 48, 1 << 56, 1 << 62, math.MaxInt - 1, math.MaxInt}
	seen := 0
	for _, x := range both() {
		for name := range x.numbers() {
			seen++
			for _, n := range good {
				y := x.copy()
				y.numbers()[name](n)
				may(t, name, y)
			}
			for _, n := range bad {
				y := x.copy()
				y.numbers()[name](n)
				isRefused(t, name, y)
				isNone(t, name, y, joined(y.parts()))
			}
		}
	}
	if seen != 12+8+5+4+12+11+5+4 {
		t.Errorf("%d numbers", seen)
	}
}

// TestTextsAtTheEdges: each alone, the other fields nought and not.
func TestTextsAtTheEdges(t *testing.T) {
	all := make([]byte, 256)
	for i := range all {
		all[i] = byte(i)
	}
	good := []string{"", "w", "\x00", "\x80", "\xff\xfe", "\xc0\x80", "\xed\xa0\x80", "C\x00", "\n ", string(all), strings.Repeat("\xff", mostText), strings.Repeat("x", mostText-1)}
	for _, size := range []int{126, 127, 128, 129, 16383, 16384} {
		good = append(good, strings.Repeat("z", size))
	}
	bad := []string{strings.Repeat("x", mostText+1), strings.Repeat("\x00", mostText+1), strings.Repeat("x", mostText+2), strings.Repeat("x", 1<<20)}
	things := both()
	for _, x := range []thing{&messageThing{}, &answerThing{}} { // a text in a list, the other fields nought
		x.list(1)
		things = append(things, x)
	}
	seen := 0
	for _, x := range things {
		for name := range x.texts() {
			seen++
			for _, s := range good {
				y := x.copy()
				y.texts()[name](s)
				may(t, name, y)
			}
			for _, s := range bad {
				y := x.copy()
				y.texts()[name](s)
				isRefused(t, name, y)
				isNone(t, name, y, joined(y.parts()))
			}
		}
	}
	if seen != 7+1+6+0+7+4+6+6+2+2 {
		t.Errorf("%d texts", seen)
	}
}

func TestTruthsOfBothKinds(t *testing.T) {
	seen := 0
	for _, x := range both() {
		for name := range x.truths() {
			seen++
			for _, b := range []bool{false, true} {
				y := x.copy()
				y.truths()[name](b)
				may(t, name, y)
			}
		}
	}
	if seen != 4 {
		t.Errorf("%d truths", seen)
	}
}

// TestListsAtTheEdges: entries up to 16, posts up to 64.
func TestListsAtTheEdges(t *testing.T) {
	for _, x := range both() {
		top := 16
		if _, ok := x.(*answerThing); ok {
			top = 64
		}
		for _, count := range []int{0, 1, 2, 15, 16, 17, 18, 63, 64, 65, 66, 127, 128, 200, 5000} {
			y := x.copy()
			if !y.list(count) {
				continue
			}
			if count <= top {
				may(t, "a list", y)
				continue
			}
			isRefused(t, "a long list", y)
			isNone(t, "a long list", y, joined(y.parts()))
		}
	}
}

// TestListsOfNoughts: items that are nought are there, as many as there were.
func TestListsOfNoughts(t *testing.T) {
	for _, count := range []int{0, 1, 2, 16} {
		may(t, "noughts", &messageThing{api.Message{Entries: make([]api.Entry, count)}})
		may(t, "noughts", &answerThing{r: api.Reply{Posts: make([]api.Post, count)}})
	}
	may(t, "noughts", &answerThing{r: api.Reply{Posts: make([]api.Post, 64)}})
	isRefused(t, "noughts", &messageThing{api.Message{Entries: make([]api.Entry, 17)}})
	isRefused(t, "noughts", &answerThing{r: api.Reply{Posts: make([]api.Post, 65)}})
}

// TestAllAtTheirGreatest: the longest texts in the longest lists, and the greatest numbers.
func TestAllAtTheirGreatest(t *testing.T) {
	long := strings.Repeat("\xfe", mostText)
	m, r := wholes()[1], wholes()[3]
	m.list(16)
	r.list(64)
	for _, x := range []thing{wholes()[0], m, wholes()[2], r} {
		for _, number := range x.numbers() {
			number(most)
		}
		for _, text := range x.texts() {
			text(long)
		}
		may(t, "the greatest", x)
	}
}

// TestAnItemAtTheEndIsAskedToo: the last one of the longest list.
func TestAnItemAtTheEndIsAskedToo(t *testing.T) {
	for _, count := range []int{1, 2, 16} {
		for _, e := range []api.Entry{{Term: -1}, {Term: most + 1}, {Data: strings.Repeat("x", mostText+1)}} {
			x := &messageThing{api.Message{Entries: entries(count)}}
			x.m.Entries[count-1] = e
			isRefused(t, "an entry", x)
		}
	}
	for _, count := range []int{1, 2, 64} {
		for _, p := range []api.Post{{User: strings.Repeat("x", mostText+1)}, {Text: strings.Repeat("x", mostText+1)}} {
			x := &answerThing{r: api.Reply{Posts: posts(count)}}
			x.r.Posts[count-1] = p
			isRefused(t, "a post", x)
		}
	}
}

// TestNilAndTheEmptyListAreTheSame also with room behind the end, which is not read.
func TestNilAndTheEmptyListAreTheSame(t *testing.T) {
	for _, list := range [][]api.Entry{nil, {}, entries(20)[:0]} {
		if s, e := command.PutMessage(api.Message{Entries: list}); s != "M"+strings.Repeat("\x00", 11) || e != api.OK {
			t.Errorf("%x, %d", s, e)
		}
	}
	for _, list := range [][]api.Post{nil, {}, posts(70)[:0]} {
		if s, e := command.PutAnswer(api.Id{}, api.Reply{Posts: list}); s != "A"+strings.Repeat("\x00", 5) || e != api.OK {
			t.Errorf("%x, %d", s, e)
		}
	}
}

// TestPutDoesNotTouchWhatIsHandedIn: neither a list nor the room behind it, whether it is refused or not.
func TestPutDoesNotTouchWhatIsHandedIn(t *testing.T) {
	for _, count := range []int{0, 1, 16, 17, 64, 65} {
		for _, n := range []int{0, -1, most + 1} {
			room, was := entries(80), entries(80)
			command.PutMessage(api.Message{Entries: room[:count], Term: n})
			command.PutMessage(api.Message{Entries: room[:count:count], Term: n})
			if !slices.Equal(room, was) {
				t.Errorf("%d entries were written to", count)
			}
			page, old := posts(80), posts(80)
			command.PutAnswer(api.Id{}, api.Reply{Posts: page[:count], At: n})
			command.PutAnswer(api.Id{}, api.Reply{Posts: page[:count:count], At: n})
			if !slices.Equal(page, old) {
				t.Errorf("%d posts were written to", count)
			}
		}
	}
}
