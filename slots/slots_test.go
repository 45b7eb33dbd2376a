package slots_test

import (
	"rookery/api"
	"rookery/slots"
	"rookery/sums"
	"slices"
	"strconv"
	"strings"
	"testing"
)

// of asks for the slot of a channel, and that it is by the chapter's words.
func of(t *testing.T, space, channel string) (int, api.Errno) {
	t.Helper()
	slot, e := slots.Of(space, channel)
	want, wantE := plainOf(space, channel)
	if slot != want || e != wantE {
		t.Errorf("Of(%q, %q): %d, %d, not %d, %d", space, channel, slot, e, want, wantE)
	}
	return slot, e
}

// channelOf is a name of a channel of the workspace which has that slot.
func channelOf(t *testing.T, space string, slot int) string {
	t.Helper()
	for i := range 1000 {
		name := "c" + strconv.Itoa(i)
		if plainSlot(space+"/"+name) == slot {
			return name
		}
	}
	t.Fatalf("no channel of %s with the slot %d", space, slot)
	return ""
}

func TestOfIsTheHashOfBothNames(t *testing.T) {
	counts := [16]int{}
	for _, space := range []string{"w", "v", "-", "0", "abcdefghijklmnop", "w-1"} {
		for i := range 200 {
			slot, e := of(t, space, "c"+strconv.Itoa(i))
			if e != api.OK || slot != sums.Slot(space+"/c"+strconv.Itoa(i)) {
				t.Errorf("Of(%q, c%d): %d, %d", space, i, slot, e)
			}
			counts[slot]++
		}
	}
	for slot, n := range counts {
		if n < 25 {
			t.Errorf("slot %d of only %d channels", slot, n)
		}
	}
}

// TestOfKnownChannels: each slot is put together of the eight fours of the name's hash.
func TestOfKnownChannels(t *testing.T) {
	for _, c := range []struct {
		space, channel string
		slot           int
	}{
		{"w", "c", 0x2 ^ 0xe ^ 0x4 ^ 0x9 ^ 0x9 ^ 0x4 ^ 0x2 ^ 0x8},
		{"v", "d", 0x9 ^ 0x0 ^ 0xc ^ 0x0 ^ 0xd ^ 0x7 ^ 0xc ^ 0x2},
		{"0", "9", 0x5 ^ 0x4 ^ 0x7 ^ 0xe ^ 0x7 ^ 0x6 ^ 0x3 ^ 0xb},
		{"abcdefghijklmnop", "-", 0xd ^ 0x6 ^ 0xc ^ 0x1 ^ 0x9 ^ 0x2 ^ 0xb ^ 0x9},
		{"-", "abcdefghijklmnop", 0x0 ^ 0x6 ^ 0xe ^ 0x6 ^ 0x1 ^ 0x5 ^ 0x8 ^ 0x5},
	} {
		if slot, e := of(t, c.space, c.channel); slot != c.slot || e != api.OK {
			t.Errorf("Of(%q, %q): %d, %d, not %d", c.space, c.channel, slot, e, c.slot)
		}
	}
}

// TestOfTellsTheTwoNamesApart: neither their order nor where the one ends is left out.
func TestOfTellsTheTwoNamesApart(t *testing.T) {
	turned, shifted := 0, 0
	for i := range 100 {
		one := strconv.Itoa(i)
		a, _ := of(t, "w"+one, "c")
		b, _ := of(t, "c", "w"+one)
		c, _ := of(t, "w", one+"c")
		if a != b {
			turned++
		}
		if a != c {
			shifted++
		}
	}
	if turned < 50 || shifted < 50 {
		t.Errorf("%d and %d of 100 have another slot", turned, shifted)
	}
}

// TestOfNamesThatAreNoLabels: each of the two alone, and both.
func TestOfNamesThatAreNoLabels(t *testing.T) {
	good := []string{"a", "z", "0", "9", "-", "----------------", "abcdefghijklmnop"}
	bad := []string{"", "abcdefghijklmnopq", strings.Repeat("a", 32), strings.Repeat("a", 1<<20), "A", "Z", "_", "a b", " a", "a ", "a\n", "\x00", "w/c", "/", "a/", "/a", "ä", "\xff", "aaaaaaaaaaaaaaaä"}
	for _, a := range append(good, bad...) {
		for _, b := range append(good, bad...) {
			want := api.ErrArg
			if slices.Contains(good, a) && slices.Contains(good, b) {
				want = api.OK
			}
			if slot, e := of(t, a, b); e != want || e != api.OK && slot != 0 {
				t.Errorf("Of(%q, %q): %d, %d, not %d", a, b, slot, e, want)
			}
		}
	}
}

// TestOfNamesOfEachLength: 16 bytes are a label, 17 are none.
func TestOfNamesOfEachLength(t *testing.T) {
	for size := range 40 {
		want := api.ErrArg
		if size >= 1 && size <= 16 {
			want = api.OK
		}
		name := strings.Repeat("x", size)
		if _, e := of(t, name, "c"); e != want {
			t.Errorf("a workspace of %d bytes: %d", size, e)
		}
		if _, e := of(t, "w", name); e != want {
			t.Errorf("a channel of %d bytes: %d", size, e)
		}
	}
}

func TestOfNamesWithEachByte(t *testing.T) {
	for b := range 256 {
		one := string([]byte{byte(b)})
		for _, name := range []string{one, one + "a", "a" + one + "a", strings.Repeat("z", 15) + one} {
			of(t, name, "c")
			of(t, "w", name)
			of(t, name, name)
		}
	}
}

// isAbout asks which slots an op is about.
func isAbout(t *testing.T, o api.Op, want ...int) {
	t.Helper()
	if got := slots.Slots(o); !slices.Equal(got, want) {
		t.Errorf("Slots(%v): %v, not %v", o, got, want)
	}
}

var all = []int{0, 1, 2, 3, 4, 5, 6, 7, 8, 9, 10, 11, 12, 13, 14, 15}

// TestSlotsOfOneChannel: of each slot.
func TestSlotsOfOneChannel(t *testing.T) {
	for slot := range 16 {
		c := channelOf(t, "w", slot)
		isAbout(t, makes("w", c), slot)
		isAbout(t, joins("w", c, "ann"), slot)
		isAbout(t, posts("w", c, "ann", "hi"), slot)
		isAbout(t, posts("w", c, "bob", ""), slot)
		isAbout(t, reads("w", c, 0, 0), slot)
		isAbout(t, reads("w", c, 1<<31-1, 64), slot)
	}
}

// TestSlotsOfAMove: from each slot to each other one, so in either order, and to another channel of the same one.
func TestSlotsOfAMove(t *testing.T) {
	for from := range 16 {
		for to := range 16 {
			o := moves("w", channelOf(t, "w", from), "v", channelOf(t, "v", to))
			switch {
			case from < to:
				isAbout(t, o, from, to)
			case from > to:
				isAbout(t, o, to, from)
			default:
				isAbout(t, o, from)
			}
		}
	}
	for slot := range 16 {
		c := channelOf(t, "w", slot)
		isAbout(t, moves("w", c, "w", c), slot)
	}
}

func TestSlotsOfAWorkspaceAndOfAUser(t *testing.T) {
	for _, name := range []string{"w", "v", "ann", "-", "0", "abcdefghijklmnop"} {
		isAbout(t, closes(name), all...)
		isAbout(t, offs(name), all...)
	}
}

func TestSlotsOfOpsThatMayNotBe(t *testing.T) {
	for _, o := range []api.Op{
		{},
		{Space: "w", Channel: "c"},
		{Kind: -1, Space: "w", Channel: "c"},
		{Kind: 8, Space: "w", Channel: "c"},
		{Kind: api.OpMake},
		makes("", "c"), makes("w", ""), makes("W", "c"), makes("w", "abcdefghijklmnopq"), makes("w", "c/d"),
		joins("w", "c", ""), joins("w", "c", "Ann"), joins("", "c", "ann"), joins("w", "c c", "ann"),
		posts("w", "c", "", "hi"), posts("w", "c", "ann", "\xff"), posts("w", "c", "ann", strings.Repeat("x", 1025)), posts("w", "", "ann", "hi"),
		reads("w", "c", -1, 1), reads("w", "c", 1<<31, 1), reads("w", "c", 0, -1), reads("w", "c", 0, 65), reads("w", "", 0, 1),
		moves("", "c", "v", "d"), moves("w", "", "v", "d"), moves("w", "c", "", "d"), moves("w", "c", "v", ""), moves("w", "c", "v", "D"),
		closes(""), closes("W"), closes("abcdefghijklmnopq"),
		offs(""), offs("Ann"), offs("abcdefghijklmnopq"),
		{Kind: api.OpMake, Space: "w", Channel: "c", User: "ann"},
		{Kind: api.OpJoin, Space: "w", Channel: "c", User: "ann", Most: 1},
		{Kind: api.OpMove, Space: "w", Channel: "c", ToSpace: "v", To: "d", User: "ann"},
		{Kind: api.OpClose, Space: "w", Channel: "c"},
		{Kind: api.OpOff, Space: "w", User: "ann"},
	} {
		isAbout(t, o)
	}
	for _, kind := range beyond {
		isAbout(t, api.Op{Kind: kind, Space: "w", Channel: "c"})
		isAbout(t, api.Op{Kind: kind, User: "ann"})
	}
}

// TestSlotsAreNewMemory: what is done with an answer is not seen in the next one.
func TestSlotsAreNewMemory(t *testing.T) {
	for _, o := range []api.Op{makes("w", "c"), moves("w", channelOf(t, "w", 9), "w", channelOf(t, "w", 3)), closes("w"), offs("ann")} {
		want := slices.Clone(slots.Slots(o))
		list := slots.Slots(o)
		for i := range list {
			list[i] = -1
		}
		_ = append(list, -1)
		isAbout(t, o, want...)
	}
}
