package model_test

import (
	"reflect"
	"rookery/api"
	"rookery/model"
	"strings"
	"testing"
)

// mayBe is one op of each kind that may be.
var mayBe = []api.Op{
	makes("w", "c"),
	joins("w", "c", "ann"),
	posts("w", "c", "ann", "hi"),
	reads("w", "c", 0, 64),
	moves("w", "c", "v", "d"),
	closes("w"),
	offs("ann"),
}

// checked asks Check, and Do of a model without anything, whether an op may be.
func checked(t *testing.T, o api.Op, want api.Errno) {
	t.Helper()
	if want != plainCheck(o) {
		t.Errorf("the plain check of %v is not %d", o, want)
	}
	if got := model.Check(o); got != want {
		t.Errorf("Check(%v): %d, not %d", o, got, want)
	}
	m := model.New()
	r := m.Do(o)
	if (r.Err == api.ErrArg) != (want == api.ErrArg) {
		t.Errorf("Do(%v): %v, though Check should be %d", o, r, want)
	}
	if want == api.ErrArg && (r.At != 0 || len(r.Posts) != 0 || len(m.Channels(o.Space)) != 0) {
		t.Errorf("Do(%v): %v, and %q", o, r, m.Channels(o.Space))
	}
}

// with is an op with another value in a field.
func with(o api.Op, field string, value any) api.Op {
	reflect.ValueOf(&o).Elem().FieldByName(field).Set(reflect.ValueOf(value))
	return o
}

// has is whether ops of the kind of this one have a field.
func has(o api.Op, field string) bool {
	return strings.Contains(" "+fieldsOf[o.Kind]+" ", " "+field+" ")
}

func errIf(refused bool) api.Errno {
	if refused {
		return api.ErrArg
	}
	return api.OK
}

func TestCheckOfEachKind(t *testing.T) {
	for _, o := range mayBe {
		checked(t, o, api.OK)
	}
}

func TestCheckOfKindsThatThereAreNot(t *testing.T) {
	for _, o := range append(mayBe, api.Op{}) {
		for _, kind := range append([]int{-7, 0, 8, 9, 255, 256, 257, 1 << 8, 1<<32 + 1}, beyond...) {
			o.Kind = kind
			checked(t, o, api.ErrArg)
		}
	}
}

// TestCheckOfAnotherKind: each op is none of another kind, but for fields that may be empty: From and Most 0, Text without a byte.
func TestCheckOfAnotherKind(t *testing.T) {
	also := map[int]int{api.OpMake: api.OpRead, api.OpJoin: api.OpPost}
	for _, o := range mayBe {
		was := o.Kind
		for kind := api.OpMake; kind <= api.OpOff; kind++ {
			o.Kind = kind
			checked(t, o, errIf(kind != was && kind != also[was]))
		}
	}
}

func TestCheckOfLabels(t *testing.T) {
	for _, o := range mayBe {
		for _, field := range []string{"Space", "Channel", "User", "ToSpace", "To"} {
			if !has(o, field) {
				continue
			}
			for size := range 40 {
				checked(t, with(o, field, strings.Repeat("a", size)), errIf(size < 1 || size > 16))
			}
			checked(t, with(o, field, strings.Repeat("a", 1<<20)), api.ErrArg)
			for _, good := range []string{"-", "--", "0", "9", "a", "z", "0123456789-", "-a-", "abcdefghijklmnop", "qrstuvwxyz------", "----------------"} {
				checked(t, with(o, field, good), api.OK)
			}
			for _, bad := range []string{"A", "ä", "ａ", "a b", " a", "a ", "a\n", "\x00", "a\x00", "w/c", "_", "a.b", "ann,", "aaaaaaaaaaaaaaa\n", "aaaaaaaaaaaaaaaä"} {
				checked(t, with(o, field, bad), api.ErrArg)
			}
		}
	}
}

// TestCheckOfEachByteOfALabel: alone, first, in the middle and last.
func TestCheckOfEachByteOfALabel(t *testing.T) {
	for b := range 256 {
		one := string([]byte{byte(b)})
		want := errIf(!strings.Contains("abcdefghijklmnopqrstuvwxyz0123456789-", one))
		for _, name := range []string{one, one + "a", "a" + one, "aa" + one + "aa", strings.Repeat("z", 15) + one, one + strings.Repeat("z", 15)} {
			checked(t, closes(name), want)
			checked(t, offs(name), want)
			checked(t, moves("w", "c", "v", name), want)
		}
	}
}

func TestCheckOfTexts(t *testing.T) {
	long := strings.Repeat("x", 2048)
	for _, size := range []int{0, 1, 2, 1022, 1023, 1024, 1025, 1026, 2048} {
		checked(t, posts("w", "c", "ann", long[:size]), errIf(size > 1024))
	}
	for _, good := range []string{"", "\x00", "\n", "a\nb\r\n", "\u0080", "ä", "\u07ff\u0800", "\ud7ff\ue000", "\uffff", "\U00010000", "\U0010ffff", "A Text, of words. / \\ \"", strings.Repeat("ä", 512), strings.Repeat("\U0001f426", 256)} {
		checked(t, posts("w", "c", "ann", good), api.OK)
	}
	for _, bad := range []string{"\x80", "\xff", "\xc0\x80", "\xc3", "a\xc3", "\xc3a", "\xe2\x82", "\xed\xa0\x80", "\xed\xbf\xbf", "\xf4\x90\x80\x80", "\xf0\x80\x80\x80", "\xf8\x88\x80\x80\x80", strings.Repeat("ä", 511) + "x\xc3", strings.Repeat("ä", 512) + "x", strings.Repeat("ä", 513)} {
		checked(t, posts("w", "c", "ann", bad), api.ErrArg)
	}
}

func TestCheckOfFromAndMost(t *testing.T) {
	for _, from := range append([]int{0, 1, 1023, 1024, 1025, 1<<31 - 2, 1<<31 - 1, 1 << 31, 1<<31 + 1}, beyond...) {
		checked(t, reads("w", "c", from, 1), errIf(from < 0 || from > 1<<31-1))
	}
	for _, most := range append([]int{0, 1, 2, 63, 64, 65, 66, 128, 1024}, beyond...) {
		checked(t, reads("w", "c", 1, most), errIf(most < 0 || most > 64))
	}
	checked(t, reads("w", "c", 1<<31-1, 64), api.OK)
	checked(t, reads("w", "c", 1<<31-1, 65), api.ErrArg)
	checked(t, reads("w", "c", 1<<31, 64), api.ErrArg)
	checked(t, reads("w", "c", -1, 1), api.ErrArg)
}

// TestCheckOfFieldsThatAreToBeEmpty: also of ones that are of use in another kind.
func TestCheckOfFieldsThatAreToBeEmpty(t *testing.T) {
	for _, o := range mayBe {
		for _, field := range []string{"Space", "Channel", "User", "Text", "ToSpace", "To"} {
			if has(o, field) {
				continue
			}
			for _, value := range []string{"w", "c", "ann", "x", "\x00", " ", "\xff", strings.Repeat("x", 17), strings.Repeat("x", 2000)} {
				checked(t, with(o, field, value), api.ErrArg)
			}
		}
		for _, field := range []string{"From", "Most"} {
			if has(o, field) {
				continue
			}
			for _, value := range append([]int{1, 2, 64}, beyond...) {
				checked(t, with(o, field, value), api.ErrArg)
			}
		}
	}
}

// TestCheckOfFieldsThatAreMissing: each one but a text and numbers, which may be empty.
func TestCheckOfFieldsThatAreMissing(t *testing.T) {
	for _, o := range mayBe {
		for _, field := range strings.Fields(fieldsOf[o.Kind]) {
			zero := reflect.Zero(reflect.ValueOf(o).FieldByName(field).Type()).Interface()
			checked(t, with(o, field, zero), errIf(field != "Text" && field != "From" && field != "Most"))
		}
		checked(t, api.Op{Kind: o.Kind}, api.ErrArg)
	}
}

// TestCheckOfAnyOps: ops of fields that are drawn.
func TestCheckOfAnyOps(t *testing.T) {
	draw := draws(9)
	names := []string{"", "", "", "a", "w-1", "abcdefghijklmnop", "abcdefghijklmnopq", "A", "\xff"}
	numbers := []int{0, 0, 0, 0, 1, 64, 65, -1, 1<<31 - 1, 1 << 31}
	good := 0
	for range 20000 {
		o := api.Op{Kind: draw(9), Space: names[draw(9)], Channel: names[draw(9)], User: names[draw(9)], Text: names[draw(9)], From: numbers[draw(10)], Most: numbers[draw(10)]}
		if draw(3) == 0 {
			o.ToSpace, o.To = names[draw(9)], names[draw(9)]
		}
		for field := range strings.FieldsSeq("Space Channel User Text ToSpace To") {
			if !has(o, field) && draw(4) > 0 {
				o = with(o, field, "")
			}
		}
		if plainCheck(o) == api.OK {
			good++
		}
		checked(t, o, plainCheck(o))
	}
	if good < 100 || good > 19000 {
		t.Errorf("%d of 20000 may be", good)
	}
}
