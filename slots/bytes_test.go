package slots_test

import (
	"rookery/api"
	"rookery/slots"
	"strings"
	"testing"
)

// isNone asks that bytes are refused.
func isNone(t *testing.T, what, s string) {
	t.Helper()
	if m, e := slots.From(s); m != nil || e != api.ErrCommand {
		t.Errorf("%s: From(%x): %v, %d", what, s, m, e)
	}
}

// backAgain asks that a map is told as the plain one's bytes, and is the same read out of them.
func backAgain(t *testing.T, p plain) {
	t.Helper()
	b := read(t, p)
	b.same()
	s, _ := b.m.Bytes()
	m, e := slots.From(s)
	if e != api.OK {
		t.Fatalf("From(%x): %d", s, e)
	}
	both{t, m, &p}.same()
}

// epochs are those around which a number has another length.
var epochs = []int{1, 2, 126, 127, 128, 129, 255, 256, 1<<14 - 1, 1 << 14, 1<<21 - 1, 1 << 21, 1<<28 - 1, 1 << 28, 1<<31 - 2, 1<<31 - 1}

func TestBytesOfKnownMaps(t *testing.T) {
	for groups, want := range map[int]string{
		1: "S" + strings.Repeat("\x01\x01", 16),
		2: "S" + strings.Repeat("\x01\x01", 8) + strings.Repeat("\x02\x01", 8),
		8: "S\x01\x01\x01\x01\x02\x01\x02\x01\x03\x01\x03\x01\x04\x01\x04\x01\x05\x01\x05\x01\x06\x01\x06\x01\x07\x01\x07\x01\x08\x01\x08\x01",
	} {
		m := made(t, groups).m
		if s, e := m.Bytes(); s != want || e != api.OK {
			t.Errorf("New(%d), Bytes: %x, %d, not %x", groups, s, e, want)
		}
	}
	b := made(t, 1)
	for i := range 299 { // an epoch of 300, which is ac 02
		b.m.Give(3, 2-i%2)
	}
	want := "S" + strings.Repeat("\x01\x01", 3) + "\x02\xac\x02" + strings.Repeat("\x01\x01", 12)
	if s, e := b.m.Bytes(); s != want || e != api.OK {
		t.Errorf("Bytes: %x, %d, not %x", s, e, want)
	}
}

// TestThereAndBackOfEachGroupAndEpoch: at each slot, the other ones being as they were.
func TestThereAndBackOfEachGroupAndEpoch(t *testing.T) {
	for slot := range 16 {
		for group := 1; group <= 8; group++ {
			for _, epoch := range epochs {
				p := plainNew(3)
				p.groups[slot], p.epochs[slot] = group, epoch
				backAgain(t, p)
			}
		}
	}
}

func TestThereAndBackOfAllAtOnce(t *testing.T) {
	for _, epoch := range epochs {
		for group := 1; group <= 8; group++ {
			var p plain
			for slot := range 16 {
				p.groups[slot], p.epochs[slot] = group, epoch
			}
			backAgain(t, p)
		}
	}
	for seed := range uint64(300) {
		draw := draws(seed)
		var p plain
		for slot := range 16 {
			p.groups[slot], p.epochs[slot] = 1+draw(8), epochs[draw(len(epochs))]
		}
		backAgain(t, p)
	}
}

// TestThereAndBackBehindAnyGives: what is read goes on as the one that was told.
func TestThereAndBackBehindAnyGives(t *testing.T) {
	for seed := range uint64(40) {
		draw := draws(seed)
		b := made(t, 1+draw(8))
		for range 100 {
			b.give(draw(16), 1+draw(8))
			s, _ := b.m.Bytes()
			m, e := slots.From(s)
			if e != api.OK {
				t.Fatalf("From(%x): %d", s, e)
			}
			other := *b.p
			o := both{t, m, &other}
			o.give(draw(16), 1+draw(8))
			b.same()
		}
	}
}

// some are maps whose bytes are cut and turned.
func some() []plain {
	list := []plain{plainNew(1), plainNew(3), plainNew(8)}
	long := plainNew(7)
	for slot := range 16 {
		long.epochs[slot] = epochs[slot]
	}
	return append(list, long)
}

func TestFromOfBeginningsAndOfMore(t *testing.T) {
	for _, p := range some() {
		s := p.bytes()
		for size := range len(s) {
			isNone(t, "a beginning", s[:size])
			isNone(t, "an end", s[len(s)-size:])
		}
		for more := range 256 {
			isNone(t, "one byte more", s+string([]byte{byte(more)}))
			isNone(t, "one byte ahead", string([]byte{byte(more)})+s)
		}
		isNone(t, "one slot more", s+"\x01\x01")
		isNone(t, "twice", s+s)
		isNone(t, "much more", s+strings.Repeat("\x01", 1<<20))
		if _, e := slots.From(s); e != api.OK {
			t.Errorf("From(%x): %d", s, e)
		}
	}
}

func TestFromOfAnotherFirstByte(t *testing.T) {
	for _, p := range some() {
		s := p.bytes()
		for first := range 256 {
			if first != 'S' {
				isNone(t, "another first byte", string([]byte{byte(first)})+s[1:])
			}
		}
		isNone(t, "no first byte", s[1:])
	}
}

// around are bytes of a map whose slot is told by these.
func around(slot int, told string) string {
	return "S" + strings.Repeat("\x03\x01", slot) + told + strings.Repeat("\x03\x01", 15-slot)
}

func TestFromOfEachGroup(t *testing.T) {
	for slot := range 16 {
		for group := range 256 {
			s := around(slot, string([]byte{byte(group), 5}))
			if group < 1 || group > 8 {
				isNone(t, "a group", s)
				continue
			}
			m, e := slots.From(s)
			if e != api.OK {
				t.Fatalf("From(%x): %d", s, e)
			}
			if got, epoch, e := m.Owner(slot); got != group || epoch != 5 || e != api.OK {
				t.Errorf("From(%x), Owner(%d): %d, %d, %d", s, slot, got, epoch, e)
			}
		}
	}
}

func TestFromOfEpochsThatMayNotBe(t *testing.T) {
	for what, told := range map[string]string{
		"0":                         "\x00",
		"2^31":                      "\x80\x80\x80\x80\x08",
		"2^31 + 1":                  "\x81\x80\x80\x80\x08",
		"2^32":                      "\x80\x80\x80\x80\x10",
		"2^32 + 1":                  "\x81\x80\x80\x80\x10",
		"2^63 - 1":                  "\xff\xff\xff\xff\xff\xff\xff\xff\x7f",
		"2^63":                      "\x80\x80\x80\x80\x80\x80\x80\x80\x80\x01",
		"2^64 + 1":                  "\x81\x80\x80\x80\x80\x80\x80\x80\x80\x02",
		"0 in two bytes":            "\x80\x00",
		"1 in two bytes":            "\x81\x00",
		"1 in three bytes":          "\x81\x80\x00",
		"1 in nine bytes":           "\x81\x80\x80\x80\x80\x80\x80\x80\x00",
		"127 in two bytes":          "\xff\x00",
		"128 in three bytes":        "\x80\x81\x00",
		"2^31 - 1 in six bytes":     "\xff\xff\xff\xff\x87\x00",
		"many bytes without an end": strings.Repeat("\x80", 9),
		"more bytes without an end": strings.Repeat("\xff", 1<<16),
		"no epoch":                  "",
	} {
		for slot := range 16 {
			isNone(t, what, around(slot, "\x03"+told))
		}
	}
	for slot := range 16 {
		if _, e := slots.From(around(slot, "\x03\xff\xff\xff\xff\x07")); e != api.OK {
			t.Errorf("2^31 - 1: %d", e)
		}
	}
}

// TestFromTakesWhatBytesTellsAlone: of bytes one of which is another one; what is taken is told by the same bytes.
func TestFromTakesWhatBytesTellsAlone(t *testing.T) {
	taken := 0
	for _, p := range some() {
		s := p.bytes()
		for at := range len(s) {
			for b := range 256 {
				turned := s[:at] + string([]byte{byte(b)}) + s[at+1:]
				m, e := slots.From(turned)
				if e != api.OK {
					isNone(t, "a byte is another one", turned)
					continue
				}
				taken++
				if again, e := m.Bytes(); again != turned || e != api.OK {
					t.Errorf("From(%x), Bytes: %x, %d", turned, again, e)
				}
			}
		}
	}
	if taken < 1000 {
		t.Errorf("only %d are taken", taken)
	}
}

// FuzzFrom: whatever is taken is told by the same bytes, and covers all slots.
func FuzzFrom(f *testing.F) {
	f.Add("")
	for _, p := range some() {
		f.Add(p.bytes())
	}
	f.Fuzz(func(t *testing.T, s string) {
		m, e := slots.From(s)
		if e != api.OK {
			isNone(t, "what is refused", s)
			return
		}
		covers(t, m)
		if again, e := m.Bytes(); again != s || e != api.OK {
			t.Errorf("From(%x), Bytes: %x, %d", s, again, e)
		}
	})
}
