package bits_test

import (
	"math"
	"rookery/api"
	"rookery/bits"
	"strings"
	"testing"
	"unicode/utf8"
)

func wantText(t *testing.T, s string, most int, text string, size int, e api.Errno) {
	t.Helper()
	if gotT, gotSize, gotE := bits.Text(s, most); gotT != text || gotSize != size || gotE != e {
		t.Errorf("Text(%q, %d): %q, %d, %d, not %q, %d, %d", s, most, gotT, gotSize, gotE, text, size, e)
	}
}

func wantValid(t *testing.T, s string, want bool) {
	t.Helper()
	if bits.Valid(s) != want {
		t.Errorf("Valid(%q): %v", s, !want)
	}
}

// spell writes a number in the form of so many bytes, whether or not that form may stand for it.
func spell(n, size int) string {
	if size == 1 {
		return string([]byte{byte(n)})
	}
	lead := map[int]int{2: 0b11000000, 3: 0b11100000, 4: 0b11110000}
	out := make([]byte, size)
	for i := size - 1; i > 0; i-- {
		out[i] = byte(0b10000000 | n&0b111111)
		n >>= 6
	}
	out[0] = byte(lead[size] | n)
	return string(out)
}

// Bi2: of each form all numbers that its bits can tell.
func TestValidOfAllNumbersInAllForms(t *testing.T) {
	forms := []struct{ size, least, end int }{{1, 0, 1 << 7}, {2, 128, 1 << 11}, {3, 2048, 1 << 16}, {4, 65536, 1 << 21}}
	for _, f := range forms {
		for n := range f.end {
			want := n >= f.least && n <= 1114111 && (n < 55296 || n > 57343)
			if s := spell(n, f.size); bits.Valid(s) != want {
				t.Fatalf("Valid of %d in %d bytes (%q): %v", n, f.size, s, !want)
			}
		}
	}
}

// Bi2
func TestValidAtTheEdges(t *testing.T) {
	for _, s := range []string{"", "\x00", "\x7f", "\xc2\x80", "\xdf\xbf", "\xe0\xa0\x80", "\xed\x9f\xbf", "\xee\x80\x80", "\xef\xbf\xbf", "\xf0\x90\x80\x80", "\xf4\x8f\xbf\xbf", "a€𝄞é\n"} {
		wantValid(t, s, true)
		wantValid(t, s+s+"x", true)
	}
	for _, s := range []string{"\x80", "\xbf", "\xc0\x80", "\xc1\xbf", "\xe0\x80\x80", "\xe0\x9f\xbf", "\xed\xa0\x80", "\xed\xbf\xbf", "\xf0\x80\x80\x80", "\xf0\x8f\xbf\xbf", "\xf4\x90\x80\x80", "\xf7\xbf\xbf\xbf", "\xf8\x88\x80\x80\x80", "\xfc\x84\x80\x80\x80\x80", "\xfe", "\xff"} {
		wantValid(t, s, false)
		wantValid(t, "a"+s, false)
		wantValid(t, s+"a", false)
		wantValid(t, "€"+s+"€", false)
	}
}

// Bi2
func TestValidOfCharactersThatAreCutOrTooLong(t *testing.T) {
	for _, c := range []string{"é", "€", "𝄞"} {
		for k := 1; k < len(c); k++ {
			wantValid(t, c[:k], false)
			wantValid(t, c[:k]+"a", false)
			wantValid(t, c[:k]+c, false)
			wantValid(t, c[k:], false)
		}
		wantValid(t, c+"\x80", false)
	}
}

// Bi2: all bytes in twos and threes, and fours of those that stand next to an edge.
func TestValidOfAllShortBytes(t *testing.T) {
	check := func(b ...byte) {
		if bits.Valid(string(b)) != utf8.Valid(b) {
			t.Fatalf("Valid(%q): %v", b, !utf8.Valid(b))
		}
	}
	for n := range 1 << 24 {
		a, b, c := byte(n>>16), byte(n>>8), byte(n)
		check(a, b, c)
		if a == 0 {
			check(b, c)
		}
	}
	edges := []byte{0, 0x7f, 0x80, 0x8f, 0x90, 0x9f, 0xa0, 0xbf, 0xc0, 0xc1, 0xc2, 0xdf, 0xe0, 0xe1, 0xec, 0xed, 0xee, 0xef, 0xf0, 0xf1, 0xf3, 0xf4, 0xf5, 0xf7, 0xf8, 0xff}
	for _, a := range edges {
		for _, b := range edges {
			for _, c := range edges {
				for _, d := range edges {
					check(a, b, c, d)
				}
			}
		}
	}
}

// Bi2
func TestPutText(t *testing.T) {
	long := strings.Repeat("é", 150)
	for text, want := range map[string]string{"": "\x00", "hi": "\x02hi", "€": "\x03€", "\x00\n": "\x02\x00\n", long: "\xac\x02" + long} {
		if s, e := bits.PutText(text); s != want || e != api.OK {
			t.Errorf("PutText(%q): %q, %d", text, s, e)
		}
	}
	for _, text := range []string{"\x80", "a\xff", "\xc0\x80", "\xed\xa0\x80", "\xf4\x90\x80\x80", "€\xe2\x82"} {
		if s, e := bits.PutText(text); s != "" || e != api.ErrText {
			t.Errorf("PutText(%q): %q, %d", text, s, e)
		}
	}
}

// Bi2
func TestTextOfKnownBytes(t *testing.T) {
	wantText(t, "\x00", 0, "", 1, api.OK)
	wantText(t, "\x00abc", 0, "", 1, api.OK)
	wantText(t, "\x02hi!", 9, "hi", 3, api.OK)
	wantText(t, "\x02hi", 2, "hi", 3, api.OK)
	wantText(t, "\x02hi\xff", math.MaxInt, "hi", 3, api.OK)
	wantText(t, "\x03€", 3, "€", 4, api.OK)
	long := strings.Repeat("x", 300)
	wantText(t, "\xac\x02"+long, 300, long, 302, api.OK)
}

// Bi2
func TestTextRefusals(t *testing.T) {
	huge := strings.Repeat("\xff", 8) + "\x7f"
	wantText(t, "\x02hi", -1, "", 0, api.ErrArg)
	wantText(t, "\x02hi", math.MinInt, "", 0, api.ErrArg)
	wantText(t, "", 9, "", 0, api.ErrShort)
	wantText(t, "\x82", 9, "", 0, api.ErrShort)
	wantText(t, "\x82\x00hi", 9, "", 0, api.ErrBits)
	wantText(t, strings.Repeat("\xff", 9)+"\x01", math.MaxInt, "", 0, api.ErrBits)
	wantText(t, "\x02hi", 1, "", 0, api.ErrLong)
	wantText(t, "\x01h", 0, "", 0, api.ErrLong)
	wantText(t, huge+"hi", math.MaxInt-1, "", 0, api.ErrLong)
	wantText(t, "\x03hi", 9, "", 0, api.ErrShort)
	wantText(t, "\x01", 9, "", 0, api.ErrShort)
	wantText(t, huge+"hi", math.MaxInt, "", 0, api.ErrShort)
	wantText(t, "\x02\xc0\x80", 9, "", 0, api.ErrText)
	wantText(t, "\x02€", 9, "", 0, api.ErrText) // its third byte stands behind the text's end
	wantText(t, "\x03a\x80b", 3, "", 0, api.ErrText)
}

// Bi2: of several errors the one that is named first.
func TestTextRefusalsInOrder(t *testing.T) {
	wantText(t, "", -1, "", 0, api.ErrArg)
	wantText(t, "\x80\x00", -1, "", 0, api.ErrArg)
	wantText(t, "\x80", 0, "", 0, api.ErrShort)
	wantText(t, "\x82\x00\xff\xff", 1, "", 0, api.ErrBits)
	wantText(t, "\x05\xff", 3, "", 0, api.ErrLong)
	wantText(t, "\x02\xff\xff", 1, "", 0, api.ErrLong)
	wantText(t, "\x03\xff", 3, "", 0, api.ErrShort)
}

// texts are of all lengths up to beyond one byte of length, and of all forms of characters.
func texts() []string {
	list := []string{"\x00", "\x01", "\x7f", "a\x00", "é", "€", "𝄞", "\u07ff\u0800\uffff\U00010000\U0010ffff", strings.Repeat("€", api.MaxText)}
	for k := range 300 {
		list = append(list, strings.Repeat("x", k))
	}
	return list
}

// Bi3
func TestTextsAreReadBackWhateverStandsBehind(t *testing.T) {
	for _, text := range texts() {
		s, e := bits.PutText(text)
		if e != api.OK {
			t.Fatalf("PutText(%q): %d", text, e)
		}
		for _, tail := range tails() {
			wantText(t, s+tail, len(text), text, len(s), api.OK)
			wantText(t, s+tail, math.MaxInt, text, len(s), api.OK)
		}
	}
}

// Bi3
func TestNoTwoTextsHaveTheSameBytes(t *testing.T) {
	seen := map[string]string{}
	for _, text := range texts() {
		s, _ := bits.PutText(text)
		if other, there := seen[s]; there && other != text {
			t.Errorf("%q and %q are both %q", text, other, s)
		}
		seen[s] = text
	}
}

// Bi3: whatever bytes are read as a text are those that it is put as.
func TestNoOtherBytesAreReadAsAText(t *testing.T) {
	for n := range 1 << 20 {
		s := string([]byte{byte(n >> 16), byte(n >> 8), byte(n)})
		text, size, e := bits.Text(s, 2)
		if e != api.OK {
			if text != "" || size != 0 {
				t.Fatalf("Text(%q): %q, %d beside %d", s, text, size, e)
			}
			continue
		}
		if p, _ := bits.PutText(text); p != s[:size] {
			t.Fatalf("%q is read as %q, which is put as %q", s[:size], text, p)
		}
	}
}
