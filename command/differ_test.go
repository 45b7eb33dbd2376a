package command_test

import (
	"rookery/api"
	"strings"
	"testing"
)

// apart asks that two things that differ have other bytes.
func apart(t *testing.T, what string, x, y thing) {
	t.Helper()
	s, e := x.put()
	r, f := y.put()
	if s == r || e != api.OK || f != api.OK {
		t.Errorf("%T, %s: both are put as %s, %d, %d", x, what, short(s), e, f)
	}
}

// TestOneFieldThatDiffers: the bytes differ too, and by that field's alone.
func TestOneFieldThatDiffers(t *testing.T) {
	for _, x := range both() {
		for name := range x.numbers() {
			for _, n := range []int{3, 129, 1 << 35, most} {
				y := x.copy()
				y.numbers()[name](n)
				apart(t, name, x, y)
			}
		}
		for name := range x.texts() {
			for _, s := range []string{"\x00", "\x00\x00", "\xff", strings.Repeat("y", 128), strings.Repeat("y", mostText)} {
				y := x.copy()
				y.texts()[name](s)
				apart(t, name, x, y)
			}
		}
		for name := range x.truths() {
			y, z := x.copy(), x.copy()
			y.truths()[name](true)
			z.truths()[name](false)
			apart(t, name, y, z)
		}
		for _, count := range []int{1, 2, 4, 15, 16} {
			y, z := x.copy(), x.copy()
			if y.list(count) && z.list(count-1) {
				apart(t, "a list", y, z)
			}
		}
	}
}

// TestTextsThatAreMovedAlong: the same bytes in all, cut at other places.
func TestTextsThatAreMovedAlong(t *testing.T) {
	op := func(a, b string) thing { return &askThing{o: api.Op{Space: a, Channel: b}} }
	post := func(a, b string) thing { return &answerThing{r: api.Reply{Posts: []api.Post{{User: a, Text: b}}}} }
	two := func(a, b string) thing { return &messageThing{api.Message{Entries: []api.Entry{{Data: a}, {Data: b}}}} }
	last := func(a, b string) thing {
		return &messageThing{api.Message{Entries: []api.Entry{{Data: a}}, Data: b}}
	}
	for _, f := range []func(a, b string) thing{op, post, two, last} {
		apart(t, "ab", f("ab", ""), f("a", "b"))
		apart(t, "ab", f("a", "b"), f("", "ab"))
		apart(t, "noughts", f("\x00", ""), f("", "\x00"))
		apart(t, "lengths", f("\x01a", ""), f("", "\x01a"))
		apart(t, "lengths", f("\x00\x00", "\x00"), f("\x00", "\x00\x00"))
	}
}

// anyThing is a thing of any kind whose fields are drawn, few of each, so that two are often the same.
func anyThing(draw func(int) int) thing {
	x := both()[draw(8)]
	if draw(2) == 0 {
		x.list(draw(4))
	}
	names := []string{"Kind", "Session", "Seq", "Err", "At", "Op.Most", "Commit", "Entries[0].Term"}
	for range draw(3) {
		if f := x.numbers()[names[draw(len(names))]]; f != nil {
			f([]int{0, 1, 128, most}[draw(4)])
		}
	}
	names = []string{"Data", "Op.Space", "Op.To", "Entries[0].Data", "Posts[0].User", "Posts[0].Text"}
	for range draw(3) {
		if f := x.texts()[names[draw(len(names))]]; f != nil {
			f([]string{"", "\x00", "\xff", "a"}[draw(4)])
		}
	}
	if f := x.truths()["Ok"]; f != nil {
		f(draw(2) == 0)
	}
	return x
}

// TestNoTwoHaveTheSameBytes is Cm2: of any two the bytes are the same if they are, and not otherwise; each is read back, and is nothing of the other kinds.
func TestNoTwoHaveTheSameBytes(t *testing.T) {
	draw := draws(12)
	seen := map[string]thing{}
	again := 0
	for range 20000 {
		x := anyThing(draw)
		s, e := x.put()
		if e != api.OK {
			t.Fatalf("%T: %d", x, e)
		}
		old, ok := seen[s]
		if ok && !same(old, x) {
			t.Errorf("%v and %v are both put as %x", old, x, s)
		}
		if ok {
			again++
			continue
		}
		seen[s] = x
		may(t, "any", x)
		for _, y := range noughts() {
			if y.parts()[0] != x.parts()[0] {
				isNone(t, "another kind", y, s)
			}
		}
	}
	if len(seen) < 1000 || again < 1000 {
		t.Errorf("%d things, %d of them again", len(seen), again)
	}
	different := []thing{}
	for _, x := range seen {
		if len(different) < 300 {
			different = append(different, x)
		}
	}
	for i, x := range different {
		for _, y := range different[:i] {
			if same(x, y) {
				t.Errorf("%v is put as two rows of bytes", x)
			}
		}
	}
}

// TestOnceMore: a call hangs on nothing but what it is given.
func TestOnceMore(t *testing.T) {
	for range 3 {
		for _, x := range wholes() {
			may(t, "whole", x)
			y := x.copy()
			for _, number := range y.numbers() {
				number(-1)
			}
			isRefused(t, "all wrong", y)
			isNone(t, "wrong", x, "X")
			may(t, "behind one that was refused", x)
		}
	}
}
