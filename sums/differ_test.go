package sums_test

import (
	"rookery/sums"
	"strings"
	"testing"
)

// turned is a text of which the bits of a pattern, from the bit at on, are turned over. A byte's bits are counted from its lowest one, as the sum takes them; those behind the text's end are left out.
func turned(s string, pattern uint32, at int) string {
	b := []byte(s)
	for k := range 32 {
		place := at + k
		if pattern>>k&1 == 1 && place/8 < len(b) {
			b[place/8] ^= 1 << (place % 8)
		}
	}
	return string(b)
}

// patterns are bits in a row: one, all 32, the two outer ones, those that the sum divides by, and mixed ones.
func patterns() []uint32 {
	list := []uint32{1, 3, 1 << 31, 1<<31 | 1, 1<<32 - 1, 0x82f63b78, 0x1edc6f41, 0xedb88320, 0xaaaaaaaa, 0x00ff00ff, 0xffff0000}
	n := uint32(7)
	for range 12 {
		n = n*1664525 + 1013904223
		list = append(list, n)
	}
	return list
}

func wantUnlike(t *testing.T, s, other string) {
	t.Helper()
	if s != other && sums.Crc(s) == sums.Crc(other) {
		t.Fatalf("%q and %q have one sum", s, other)
	}
}

// Su3
func TestOneBitTellsTextsApart(t *testing.T) {
	for _, size := range []int{1, 2, 3, 4, 5, 31, 256} {
		for _, s := range []string{mixed(size), strings.Repeat("\x00", size), strings.Repeat("\xff", size)} {
			for at := range size * 8 {
				wantUnlike(t, s, turned(s, 1, at))
			}
		}
	}
}

// Su3: at every bit, the text's beginning and end among them.
func Test32BitsInARowTellTextsApart(t *testing.T) {
	for _, size := range []int{1, 2, 3, 4, 5, 6, 8, 9, 40} {
		for _, s := range []string{mixed(size), strings.Repeat("\x00", size), strings.Repeat("\xff", size)} {
			for at := range size * 8 {
				for _, p := range patterns() {
					wantUnlike(t, s, turned(s, p, at))
				}
			}
		}
	}
}

// Su3
func TestLongTextsAreToldApart(t *testing.T) {
	s := mixed(5000)
	last := len(s)*8 - 32
	for _, at := range []int{0, 1, 7, 8, 9, 31, 32, 33, 20000, 20001, 20005, last - 9, last - 8, last - 1, last, last + 1, last + 31} {
		for _, p := range patterns() {
			wantUnlike(t, s, turned(s, p, at))
		}
	}
}

// Su3: all texts that differ in the same two bytes, held against each other.
func TestNoTwoOfTwoBytesAreAlike(t *testing.T) {
	for _, around := range [][2]string{{"", ""}, {"", "behind"}, {"ahead", ""}, {"\x00\x00", "\xff\xff"}} {
		seen := make(map[int]int, 1<<16)
		for n := range 1 << 16 {
			sum := sums.Crc(around[0] + string([]byte{byte(n), byte(n >> 8)}) + around[1])
			if other, ok := seen[sum]; ok {
				t.Fatalf("%q: %d and %d have one sum", around, n, other)
			}
			seen[sum] = n
		}
	}
}
