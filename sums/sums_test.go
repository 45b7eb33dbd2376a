package sums_test

import (
	"rookery/sums"
	"strings"
	"testing"
)

// crcByBits is Su1's steps, one by one, on a plain number.
func crcByBits(s string) int {
	n := 1<<32 - 1
	for i := range len(s) {
		n ^= int(s[i])
		for range 8 {
			half := n / 2
			if n%2 == 1 {
				half ^= 0x82f63b78
			}
			n = half
		}
	}
	return n ^ (1<<32 - 1)
}

// slotBySteps is Su2's steps, one by one, on a plain number.
func slotBySteps(s string) int {
	n := 2166136261
	for i := range len(s) {
		n = (n ^ int(s[i])) * 16777619 % (1 << 32)
	}
	slot := 0
	for k := range 8 {
		slot ^= n >> (4 * k) % 16
	}
	return slot
}

// allBytes is every byte from 0 to 255 once.
func allBytes() string {
	b := make([]byte, 256)
	for i := range b {
		b[i] = byte(i)
	}
	return string(b)
}

// mixed is so many bytes that look like no row; the same ones at each call.
func mixed(size int) string {
	b := make([]byte, size)
	n := uint32(size) + 1
	for i := range b {
		n = n*1664525 + 1013904223
		b[i] = byte(n >> 24)
	}
	return string(b)
}

// samples are texts of all sorts: empty, of one byte, of all bytes, short, and of some thousand bytes.
func samples() []string {
	list := []string{"", "123456789", "w/c", "héé", "\xff\xfe", "\n", " ", allBytes()}
	for b := range 256 {
		one := string([]byte{byte(b)})
		list = append(list, one, "\x00"+one, one+"\x00", "abc"+one)
	}
	for size := range 70 {
		list = append(list, mixed(size), strings.Repeat("\x00", size), strings.Repeat("\xff", size))
	}
	return append(list, mixed(4095), mixed(4096), mixed(9999), strings.Repeat("\x00", 5000), strings.Repeat("\xff", 5000), strings.Repeat(allBytes(), 20))
}

// Su1
func TestCrcOfKnownTexts(t *testing.T) {
	cases := []struct {
		s string
		n int
	}{
		{"", 0},
		{"123456789", 3808858755},
		{"a", 0xc1d04330},
		{strings.Repeat("\x00", 32), 0x8a9136aa},
		{strings.Repeat("\xff", 32), 0x62a8ab43},
		{allBytes()[:32], 0x46dd794e},
	}
	for _, c := range cases {
		if n := sums.Crc(c.s); n != c.n {
			t.Errorf("Crc(%q): %d, not %d", c.s, n, c.n)
		}
	}
}

// Su1
func TestCrcIsItsStepsOneByOne(t *testing.T) {
	for _, s := range samples() {
		if n, want := sums.Crc(s), crcByBits(s); n != want {
			t.Errorf("Crc(%q): %d, not %d", s, n, want)
		}
	}
}

// Su1: each beginning of a text, so that every byte meets sums of all sorts.
func TestCrcOfEachBeginning(t *testing.T) {
	s := mixed(3000)
	for size := range len(s) {
		if n, want := sums.Crc(s[:size]), crcByBits(s[:size]); n != want {
			t.Fatalf("the first %d bytes: %d, not %d", size, n, want)
		}
	}
}

// Su1
func TestCrcIsANumberOf32Bits(t *testing.T) {
	high := 0
	for _, s := range samples() {
		n := sums.Crc(s)
		if n < 0 || n >= 1<<32 {
			t.Errorf("Crc(%q): %d", s, n)
		}
		if n >= 1<<31 {
			high++
		}
	}
	if high == 0 {
		t.Error("no sum has its 32nd bit")
	}
}

// Su2: the hashes are 811c9dc5, e40c292c and bf9cf968.
func TestSlotOfKnownHashes(t *testing.T) {
	cases := []struct {
		s string
		n int
	}{
		{"", 9},
		{"a", 3},
		{"foobar", 9},
	}
	for _, c := range cases {
		if n := sums.Slot(c.s); n != c.n {
			t.Errorf("Slot(%q): %d, not %d", c.s, n, c.n)
		}
	}
}

// Su2
func TestSlotIsItsStepsOneByOne(t *testing.T) {
	for _, s := range samples() {
		if n, want := sums.Slot(s), slotBySteps(s); n != want {
			t.Errorf("Slot(%q): %d, not %d", s, n, want)
		}
	}
}

// Su2
func TestSlotAnswersEachOf16(t *testing.T) {
	seen := [16]int{}
	for b := range 256 {
		n := sums.Slot("w/c" + string([]byte{byte(b)}))
		if n < 0 || n > 15 {
			t.Fatalf("%d: %d", b, n)
		}
		seen[n]++
	}
	for slot, times := range seen {
		if times == 0 {
			t.Errorf("no text has slot %d", slot)
		}
	}
}

// R4
func TestAskedAgainTheyAnswerTheSame(t *testing.T) {
	for _, s := range samples() {
		crc, slot := sums.Crc(s), sums.Slot(s)
		sums.Crc(s + "more")
		sums.Slot(s + "more")
		if sums.Crc(s) != crc || sums.Slot(s) != slot {
			t.Errorf("%q: asked again, another answer", s)
		}
	}
}
