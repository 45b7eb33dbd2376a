package command_test

import (
	"rookery/api"
	"strings"
	"testing"
	"unsafe"
)

func TestFromOfNothing(t *testing.T) {
	for _, x := range noughts() {
		isNone(t, "nothing", x, "")
		for b := range 256 {
			isNone(t, "one byte", x, string([]byte{byte(b)}))
		}
	}
}

func TestFromOfBeginningsAndOfMore(t *testing.T) {
	for _, x := range both() {
		s := joined(x.parts())
		for size := range len(s) {
			isNone(t, "a beginning", x, s[:size])
			isNone(t, "an end", x, s[len(s)-size:])
		}
		for b := range 256 {
			isNone(t, "one byte more", x, s+string([]byte{byte(b)}))
			isNone(t, "one byte ahead", x, string([]byte{byte(b)})+s)
		}
		isNone(t, "twice", x, s+s)
		isNone(t, "much more", x, s+strings.Repeat("\x00", 1<<20))
		may(t, "as it was", x)
	}
}

// TestFromOfAnotherFirstByte: each one, those of the other kinds among them; and whole bytes of the other kinds.
func TestFromOfAnotherFirstByte(t *testing.T) {
	for _, x := range both() {
		s := joined(x.parts())
		for first := range 256 {
			if byte(first) != s[0] {
				isNone(t, "another first byte", x, string([]byte{byte(first)})+s[1:])
			}
		}
		isNone(t, "a small first byte", x, strings.ToLower(s[:1])+s[1:])
		for _, y := range both() {
			if other := joined(y.parts()); other[0] != s[0] {
				isNone(t, "another kind", x, other)
			}
		}
	}
}

// instead are bytes of a thing with one part told by other ones.
func instead(x thing, at int, bytes string) string {
	parts := x.parts()
	parts[at].bytes = bytes
	return joined(parts)
}

// eachPart calls f with each part of what it is, of things of all kinds.
func eachPart(t *testing.T, what int, f func(x thing, at int, p part)) {
	t.Helper()
	seen := 0
	for _, x := range both() {
		for at, p := range x.parts() {
			if p.what == what {
				f(x, at, p)
				seen++
			}
		}
	}
	if seen < 4 {
		t.Errorf("only %d parts", seen)
	}
}

// wrongNumbers are bytes that are no number, or none that may be.
var wrongNumbers = map[string]string{
	"2^40 + 1":                  "\x81\x80\x80\x80\x80\x20",
	"2^41":                      "\x80\x80\x80\x80\x80\x40",
	"2^42":                      "\x80\x80\x80\x80\x80\x80\x01",
	"2^63 - 1":                  "\xff\xff\xff\xff\xff\xff\xff\xff\x7f",
	"2^63":                      "\x80\x80\x80\x80\x80\x80\x80\x80\x80\x01",
	"2^64 + 1":                  "\x81\x80\x80\x80\x80\x80\x80\x80\x80\x02",
	"0 in two bytes":            "\x80\x00",
	"0 in three bytes":          "\x80\x80\x00",
	"1 in two bytes":            "\x81\x00",
	"1 in nine bytes":           "\x81\x80\x80\x80\x80\x80\x80\x80\x00",
	"127 in two bytes":          "\xff\x00",
	"128 in three bytes":        "\x80\x81\x00",
	"2^40 in seven bytes":       "\x80\x80\x80\x80\x80\xa0\x00",
	"many bytes without an end": strings.Repeat("\x80", 9),
	"more bytes without an end": strings.Repeat("\xff", 1<<12),
}

func TestFromOfNumbersThatMayNotBe(t *testing.T) {
	eachPart(t, isNumber, func(x thing, at int, p part) {
		for what, told := range wrongNumbers {
			isNone(t, p.name+": "+what, x, instead(x, at, told))
		}
		isNone(t, p.name+": no bytes", x, instead(x, at, ""))
		if y, e := x.from(instead(x, at, "\x80\x80\x80\x80\x80\x20")); e != api.OK || same(x, y) {
			t.Errorf("%T, %s: 2^40: %d", x, p.name, e)
		}
	})
}

func TestFromOfTruthsThatMayNotBe(t *testing.T) {
	eachPart(t, isTruth, func(x thing, at int, p part) {
		for b := 2; b < 256; b++ {
			isNone(t, "a truth", x, instead(x, at, string([]byte{byte(b)})))
		}
		for what, told := range wrongNumbers {
			isNone(t, "a truth: "+what, x, instead(x, at, told))
		}
		for _, told := range []string{"", "\x80\x01", "\x81\x01", "\x82\x01", "T", "\x01\x01"} {
			isNone(t, "a truth", x, instead(x, at, told))
		}
	})
}

// TestFromOfTextsThatMayNotBe: lengths above 2^18 with all their bytes, lengths beyond the end, and in more bytes than they take.
func TestFromOfTextsThatMayNotBe(t *testing.T) {
	eachPart(t, isText, func(x thing, at int, p part) {
		for _, size := range []int{mostText + 1, mostText + 2, 1 << 19, 1 << 20} {
			isNone(t, p.name+": too long", x, instead(x, at, number(size)+strings.Repeat("\x00", size)))
			isNone(t, p.name+": too long, beyond the end", x, instead(x, at, number(size)))
		}
		for what, told := range wrongNumbers {
			isNone(t, p.name+": a length of "+what, x, instead(x, at, told+p.bytes[1:]))
			isNone(t, p.name+": a length of "+what, x, instead(x, at, told+strings.Repeat("\x00", 1<<10)))
		}
		isNone(t, p.name+": no bytes", x, instead(x, at, ""))
		ahead := joined(x.parts()[:at])
		for _, size := range []int{1, 2, 127, 128, 1000, mostText} {
			isNone(t, p.name+": beyond the end", x, ahead+number(size))
			isNone(t, p.name+": beyond the end by one", x, ahead+number(size)+strings.Repeat("x", size-1))
		}
	})
}

// TestFromOfCountsThatMayNotBe: more than there may be, with as many items; more and fewer than there are.
func TestFromOfCountsThatMayNotBe(t *testing.T) {
	for _, count := range []int{17, 18, 64, 65, 66, 127, 128, 1000, 1 << 17} {
		isNone(t, "entries of noughts", &messageThing{}, "M"+strings.Repeat("\x00", 9)+number(count)+strings.Repeat("\x00\x00", count)+"\x00")
		if count > 64 {
			isNone(t, "posts of noughts", &answerThing{}, "A"+strings.Repeat("\x00", 4)+number(count)+strings.Repeat("\x00\x00", count))
		}
	}
	eachPart(t, isCount, func(x thing, at int, p part) {
		for what, told := range wrongNumbers {
			isNone(t, p.name+": "+what, x, instead(x, at, told))
			isNone(t, p.name+": "+what, x, joined(x.parts()[:at])+told+strings.Repeat("\x00", 1<<10))
		}
		isNone(t, p.name+": no bytes", x, instead(x, at, ""))
		for count := range 130 {
			if told := number(count); told != p.bytes {
				isNone(t, p.name+": another count", x, instead(x, at, told))
			}
		}
	})
}

// TestFromIsWhatPutTells: of bytes one of which is another one, or gone, or there twice; what is taken is put as the same bytes, and so is nothing else.
func TestFromIsWhatPutTells(t *testing.T) {
	taken := 0
	ask := func(x thing, s string) {
		y, e := x.from(s)
		if e != api.OK {
			isNone(t, "what is refused", x, s)
			return
		}
		taken++
		if again, e := y.put(); again != s || e != api.OK || joined(y.parts()) != s {
			t.Errorf("%T: %x is taken, and put as %x, %d", x, s, again, e)
		}
	}
	for _, x := range both() {
		s := joined(x.parts())
		for at := range len(s) {
			for b := range 256 {
				ask(x, s[:at]+string([]byte{byte(b)})+s[at+1:])
			}
			ask(x, s[:at]+s[at+1:])
			ask(x, s[:at+1]+s[at:])
		}
	}
	if taken < 1000 {
		t.Errorf("only %d are taken", taken)
	}
}

// TestFromOfAnyBytes: whatever they are, nothing panics, and what is taken is put as the same bytes.
func TestFromOfAnyBytes(t *testing.T) {
	taken := 0
	for seed := range uint64(20000) {
		draw := draws(seed)
		below := []int{2, 3, 20, 130, 256}[draw(5)]
		b := make([]byte, draw(40))
		for i := range b {
			b[i] = byte(draw(below))
		}
		for _, x := range noughts() {
			s := x.parts()[0].bytes + string(b)
			if y, e := x.from(s); e == api.OK {
				taken++
				may(t, "any bytes", y)
			} else {
				isNone(t, "any bytes", x, s)
			}
			x.from(string(b))
		}
	}
	if taken < 100 {
		t.Errorf("only %d are taken", taken)
	}
}

// within is whether a text's bytes are some of those of s.
func within(text, s string) bool {
	at, low := uintptr(unsafe.Pointer(unsafe.StringData(text))), uintptr(unsafe.Pointer(unsafe.StringData(s)))
	return text != "" && at >= low && at < low+uintptr(len(s))
}

// TestWhatIsReadIsNewMemory: no text is a piece of the bytes that it was read of, and no two answers share a list.
func TestWhatIsReadIsNewMemory(t *testing.T) {
	for _, x := range wholes() {
		s := joined(x.parts())
		y, _ := x.from(s)
		var list []string
		switch z := y.(type) {
		case *commandThing:
			list = append(list, z.c.Data, z.c.Op.Space, z.c.Op.Channel, z.c.Op.User, z.c.Op.Text, z.c.Op.ToSpace, z.c.Op.To)
		case *askThing:
			list = append(list, z.o.Space, z.o.Channel, z.o.User, z.o.Text, z.o.ToSpace, z.o.To)
		case *messageThing:
			list = append(list, z.m.Data)
			for i := range z.m.Entries {
				list = append(list, z.m.Entries[i].Data)
				z.m.Entries[i] = api.Entry{}
			}
		case *answerThing:
			for i := range z.r.Posts {
				list = append(list, z.r.Posts[i].User, z.r.Posts[i].Text)
				z.r.Posts[i] = api.Post{}
			}
		}
		for _, text := range list {
			if text == "" || within(text, s) {
				t.Errorf("%T: the text %q is a piece of what was handed in", x, text)
			}
		}
		may(t, "behind the spoiling of what was read", x)
	}
}

// fuzz asks that whatever is taken of any bytes is put as the same ones.
func fuzz(f *testing.F, kind int) {
	f.Add("")
	for _, x := range both() {
		f.Add(joined(x.parts()))
	}
	f.Fuzz(func(t *testing.T, s string) {
		x := noughts()[kind]
		y, e := x.from(s)
		if e != api.OK {
			isNone(t, "what is refused", x, s)
			return
		}
		if again, e := y.put(); again != s || e != api.OK {
			t.Errorf("%T: %x is taken, and put as %x, %d", x, s, again, e)
		}
	})
}

func FuzzFrom(f *testing.F)        { fuzz(f, 0) }
func FuzzFromMessage(f *testing.F) { fuzz(f, 1) }
func FuzzFromAsk(f *testing.F)     { fuzz(f, 2) }
func FuzzFromAnswer(f *testing.F)  { fuzz(f, 3) }
