package frame_test

import (
	"encoding/binary"
	"hash/crc32"
	"rookery/api"
	"rookery/frame"
	"strings"
	"testing"
)

// most is the length of the longest payload, written out so that it does not hang on the limits' package.
const most = 1 << 18

// record is the chapter's record, put together by Go's own library.
func record(payload string) string {
	size := binary.LittleEndian.AppendUint32(nil, uint32(len(payload)))
	return withSum(payload, crc32.Checksum([]byte(string(size)+payload), crc32.MakeTable(crc32.Castagnoli)))
}

// withSum is a record of whatever sum.
func withSum(payload string, sum uint32) string {
	return withHead(uint32(len(payload)), sum, payload)
}

// withHead is a record of whatever length and sum.
func withHead(size, sum uint32, payload string) string {
	b := binary.LittleEndian.AppendUint32([]byte("R"), size)
	return string(binary.LittleEndian.AppendUint32(b, sum)) + payload
}

// mixed is so many bytes that look like no row; the same ones at each call.
func mixed(size int) string {
	b := make([]byte, size)
	n := uint32(size) + 1
	for i := range b {
		n = n*1664525 + 1013904223
		b[i] = byte(n >> 24)
	}
	return string(b)
}

// payloads are of all sorts: none, texts, bytes that are no text, records, and lengths around one and two bytes' end.
func payloads() []string {
	list := []string{"", "\x00", "R", "hi", "\xff\xfe", "\n", strings.Repeat("\x00", 4), strings.Repeat("R", 20), record(""), record("hi") + record("you")}
	for _, size := range []int{8, 9, 10, 127, 128, 255, 256, 257, 65535, 65536, 65537, most - 1, most} {
		list = append(list, mixed(size))
	}
	return append(list, strings.Repeat("\x00", most), strings.Repeat("\xff", most))
}

// short is what a test tells of bytes, which may be many.
func short(s string) string {
	if len(s) > 40 {
		return s[:40] + ".."
	}
	return s
}

func wantTake(t *testing.T, s, payload string, bytes int, e api.Errno) {
	t.Helper()
	gotPayload, gotBytes, gotErr := frame.Take(s)
	if gotPayload != payload || gotBytes != bytes || gotErr != e {
		t.Errorf("Take(%q, %d bytes): %q %d %v, not %q %d %v", short(s), len(s), short(gotPayload), gotBytes, gotErr, short(payload), bytes, e)
	}
}

// Fm1: the chapter's example 1, and the document's sum of four noughts.
func TestPutOfNoByte(t *testing.T) {
	s, e := frame.Put("")
	if s != "R\x00\x00\x00\x00\xc7\x4b\x67\x48" || e != api.OK {
		t.Errorf("%q %v", s, e)
	}
}

// Fm1
func TestPutOfKnownBytes(t *testing.T) {
	s, e := frame.Put("hi")
	if s != record("hi") || s[:5] != "R\x02\x00\x00\x00" || s[9:] != "hi" || e != api.OK {
		t.Errorf("%q %v", s, e)
	}
}

// Fm1
func TestPutIsTheRecord(t *testing.T) {
	for _, p := range payloads() {
		if s, e := frame.Put(p); s != record(p) || e != api.OK {
			t.Errorf("Put(%q, %d bytes): %q %v", short(p), len(p), short(s), e)
		}
	}
}

// Fm1
func TestPutOfTooMany(t *testing.T) {
	for _, size := range []int{most + 1, most + 2, 2 * most, 1 << 24} {
		if s, e := frame.Put(strings.Repeat("x", size)); s != "" || e != api.ErrLong {
			t.Errorf("%d bytes: %q %v", size, short(s), e)
		}
	}
}

// Fm1: whatever stands behind a record.
func TestTakeOfWhatWasPut(t *testing.T) {
	for _, p := range payloads() {
		s := record(p)
		for _, behind := range []string{"", "x", "R", "\x00", s, s[:len(s)-1], "more bytes than a record's head"} {
			wantTake(t, s+behind, p, 9+len(p), api.OK)
		}
	}
}

// Fm1
func TestTakeOfNoByte(t *testing.T) {
	wantTake(t, "", "", 0, api.ErrShort)
}

// Fm1: another first byte is told ahead of bytes that lack, of a length that is too long and of another sum.
func TestTakeOfAnotherFirstByte(t *testing.T) {
	whole := record("hi")
	for b := range 256 {
		if b == 'R' {
			continue
		}
		first := string([]byte{byte(b)})
		for _, rest := range []string{"", "R", whole, whole[1:], whole[1:5], whole[1 : len(whole)-1], "\xff\xff\xff\xff\x00\x00\x00\x00", withSum("hi", 0)[1:]} {
			wantTake(t, first+rest, "", 0, api.ErrFrame)
		}
	}
}

// Fm1: fewer than 9 bytes are told ahead of a length that is too long, and of another sum.
func TestTakeOfAHeadThatLacksBytes(t *testing.T) {
	for _, s := range []string{record(""), record("hi"), withSum("", 1), withHead(most+1, 0, ""), "R\xff\xff\xff\xff\xff\xff\xff\xff"} {
		for size := 1; size <= 8; size++ {
			wantTake(t, s[:size], "", 0, api.ErrShort)
		}
	}
}

// Fm1: a length that is too long is told ahead of bytes that lack, and though the sum is the right one.
func TestTakeOfALengthThatIsTooLong(t *testing.T) {
	for _, size := range []uint32{most + 1, most + 256, 1 << 19, 1 << 24, 1<<31 - 1, 1 << 31, 1<<32 - 1} {
		wantTake(t, withHead(size, 0, ""), "", 0, api.ErrFrame)
		wantTake(t, withHead(size, 0, "payload"), "", 0, api.ErrFrame)
	}
	long := strings.Repeat("x", most+1)
	wantTake(t, record(long), "", 0, api.ErrFrame)
	wantTake(t, record(long)+"behind", "", 0, api.ErrFrame)
}

// Fm1: the greatest length that is told is no fault of its own.
func TestTakeOfTheGreatestLength(t *testing.T) {
	wantTake(t, withHead(most, 0, ""), "", 0, api.ErrShort)
	wantTake(t, withHead(most, 0, strings.Repeat("x", most-1)), "", 0, api.ErrShort)
	wantTake(t, withHead(most, 0, strings.Repeat("x", most)), "", 0, api.ErrFrame)
}

// Fm1: bytes that lack are told ahead of another sum.
func TestTakeOfARecordThatLacksBytes(t *testing.T) {
	for _, p := range []string{"h", "hi", "hello", mixed(300), mixed(most)} {
		for _, s := range []string{record(p), withSum(p, 0)} {
			for _, size := range []int{9, 9 + len(p)/2, 9 + len(p) - 1} {
				wantTake(t, s[:size], "", 0, api.ErrShort)
			}
		}
	}
}

// Fm1
func TestTakeOfAnotherSum(t *testing.T) {
	for _, p := range []string{"", "h", "hi", mixed(300), mixed(most)} {
		s := record(p)
		right := binary.LittleEndian.Uint32([]byte(s[5:9]))
		for bit := range 32 {
			wantTake(t, withSum(p, right^1<<bit), "", 0, api.ErrFrame)
			wantTake(t, withSum(p, right^1<<bit)+"behind", "", 0, api.ErrFrame)
		}
	}
}

// Fm1: the sum counts the length's bytes too, those ahead of the payload.
func TestTakeOfASumOfThePayloadAlone(t *testing.T) {
	table := crc32.MakeTable(crc32.Castagnoli)
	wantTake(t, withSum("", 0), "", 0, api.ErrFrame)
	for _, p := range []string{"h", "hi", mixed(300)} {
		size := binary.LittleEndian.AppendUint32(nil, uint32(len(p)))
		for _, summed := range []string{p, p + string(size), "R" + string(size) + p} {
			wantTake(t, withSum(p, crc32.Checksum([]byte(summed), table)), "", 0, api.ErrFrame)
		}
	}
}

// Fm3: "but for its length" apart, each byte of a record turned into each other one, alone and with bytes behind it.
func TestARecordWithATurnedByteIsNeverTaken(t *testing.T) {
	for _, p := range []string{"", "\x00", "hi", "R", record("hi"), mixed(40)} {
		s := record(p)
		for at := range s {
			if at >= 1 && at <= 4 {
				continue
			}
			for b := range 256 {
				if byte(b) == s[at] {
					continue
				}
				torn := s[:at] + string([]byte{byte(b)}) + s[at+1:]
				wantTake(t, torn, "", 0, api.ErrFrame)
				wantTake(t, torn+s, "", 0, api.ErrFrame)
			}
		}
	}
}

// Fm3: of the longest record, some bytes at its ends and between them.
func TestTheLongestRecordWithATurnedByteIsNeverTaken(t *testing.T) {
	s := record(mixed(most))
	for _, at := range []int{0, 5, 6, 7, 8, 9, 10, 4096, most / 2, most + 7, most + 8} {
		for _, turn := range []byte{1, 2, 16, 128, 255} {
			wantTake(t, s[:at]+string([]byte{s[at] ^ turn})+s[at+1:], "", 0, api.ErrFrame)
		}
	}
}

// Fm1: another length is no payload of this record: too long, bytes that lack, or a sum of other bytes.
func TestARecordWithATurnedLength(t *testing.T) {
	p := mixed(300)
	s := record(p)
	for at := 1; at <= 4; at++ {
		for b := range 256 {
			if byte(b) == s[at] {
				continue
			}
			torn := s[:at] + string([]byte{byte(b)}) + s[at+1:]
			want := api.ErrShort
			if size := binary.LittleEndian.Uint32([]byte(torn[1:5])); size > most || size < 300 {
				want = api.ErrFrame
			}
			wantTake(t, torn, "", 0, want)
		}
	}
}
