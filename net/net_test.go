package net_test

import (
	"math"
	"rookery/api"
	"rookery/net"
	"strconv"
	"strings"
	"testing"
)

func TestNewTakesOneUpToMaxPending(t *testing.T) {
	for _, most := range []int{math.MinInt, -4096, -1, 0, 4097, 1 << 32, 1<<32 + 1, math.MaxInt} {
		if n, e := net.New(most); n != nil || e != api.ErrArg {
			t.Errorf("New(%d): %v, %d", most, n, e)
		}
	}
	for _, most := range []int{1, 2, 4095, 4096} {
		b := made(t, most)
		b.counts(-1, 0, 1, 255, 256)
		b.take(0)
		b.twice(0)
		b.cut(0)
		b.counts(0)
	}
}

func TestTheChaptersExample(t *testing.T) {
	n, _ := net.New(1)
	if e := n.Put(net.Letter{From: 0, To: 1}); e != api.OK {
		t.Errorf("the first: %d", e)
	}
	if e := n.Put(net.Letter{From: 0, To: 1}); e != api.ErrFull {
		t.Errorf("the second: %d", e)
	}
	if e := n.Put(net.Letter{From: 1, To: 0}); e != api.OK {
		t.Errorf("the other way: %d", e)
	}
	if n.Len() != 2 || n.Between(0, 1) != 1 || n.Between(1, 0) != 1 {
		t.Errorf("%d, %d, %d", n.Len(), n.Between(0, 1), n.Between(1, 0))
	}
}

func TestPutTakesNumbersUpTo255(t *testing.T) {
	b := made(t, 2)
	who := []int{math.MinInt, -256, -1, 0, 1, 100, 254, 255, 256, 257, 1 << 32, math.MaxInt}
	for _, from := range who {
		for _, to := range who {
			want := api.ErrArg
			if from >= 0 && from <= 255 && to >= 0 && to <= 255 {
				want = api.OK
			}
			if e := b.put(net.Letter{From: from, To: to, Bytes: strconv.Itoa(from)}); e != want {
				t.Errorf("from %d to %d: %d, not %d", from, to, e, want)
			}
		}
	}
	b.counts(who...)
	b.same()
	if b.n.Len() != 25 {
		t.Errorf("%d letters", b.n.Len())
	}
}

func TestPutTakesBytesUpToALength(t *testing.T) {
	b := made(t, 8)
	long := strings.Repeat("\x00\xff\n", 1<<20)
	for _, c := range []struct {
		size int
		e    api.Errno
	}{{0, api.OK}, {1, api.OK}, {1<<20 - 1, api.OK}, {1 << 20, api.OK}, {1<<20 + 1, api.ErrLong}, {1 << 21, api.ErrLong}} {
		if e := b.put(net.Letter{From: 3, To: 4, Bytes: long[:c.size]}); e != c.e {
			t.Errorf("%d bytes: %d, not %d", c.size, e, c.e)
		}
		b.counts(3, 4)
	}
	for _, size := range []int{0, 1, 1<<20 - 1, 1 << 20} {
		if l, ok := b.n.Take(0); !ok || l != (net.Letter{From: 3, To: 4, Bytes: long[:size]}) {
			t.Errorf("of %d bytes came %d, %v", size, len(l.Bytes), ok)
		}
	}
}

// TestPutTellsErrorsInTheirOrder: what several errors apply to, in a net where the way from 0 to 255 is full.
func TestPutTellsErrorsInTheirOrder(t *testing.T) {
	b := made(t, 1)
	b.put(net.Letter{From: 0, To: 255, Bytes: "first"})
	long := strings.Repeat("x", 1<<20+1)
	for _, c := range []struct {
		what     string
		from, to int
		bytes    string
		e        api.Errno
	}{
		{"full", 0, 255, "", api.ErrFull},
		{"full, of the greatest length", 0, 255, long[1:], api.ErrFull},
		{"long", 255, 0, long, api.ErrLong},
		{"long and full", 0, 255, long, api.ErrLong},
		{"From and long", 256, 255, long, api.ErrArg},
		{"To and long", 0, 256, long, api.ErrArg},
		{"From and To", -1, 256, "", api.ErrArg},
		{"From, To and long", -1, -1, long, api.ErrArg},
		{"From and To beyond a full way by a byte's round", 256, 511, "", api.ErrArg},
	} {
		if e := b.put(net.Letter{From: c.from, To: c.to, Bytes: c.bytes}); e != c.e {
			t.Errorf("%s: %d, not %d", c.what, e, c.e)
		}
		b.counts(-1, 0, 255, 256, 511)
		b.stand("first")
	}
}

func TestPutUpToMostBetweenTwo(t *testing.T) {
	for _, most := range []int{1, 2, 3, 7, 4095, 4096} {
		b := made(t, most)
		fill := func(from, to int) {
			t.Helper()
			for i := range most {
				if e := b.n.Put(net.Letter{From: from, To: to, Bytes: strconv.Itoa(i)}); e != api.OK {
					t.Fatalf("letter %d of %d: %d", i, most, e)
				}
			}
			for range 2 {
				if e := b.n.Put(net.Letter{From: from, To: to, Bytes: "beyond"}); e != api.ErrFull {
					t.Errorf("one beyond %d: %d", most, e)
				}
			}
		}
		fill(5, 6)
		fill(6, 5)
		fill(5, 5)
		fill(5, 7)
		for _, way := range [][2]int{{5, 6}, {6, 5}, {5, 5}, {5, 7}} {
			if got := b.n.Between(way[0], way[1]); got != most {
				t.Errorf("between %v are %d, not %d", way, got, most)
			}
			for i := range most {
				want := net.Letter{From: way[0], To: way[1], Bytes: strconv.Itoa(i)}
				if l, ok := b.n.Take(0); !ok || l != want {
					t.Fatalf("%v, %v came, not %v", l, ok, want)
				}
			}
		}
		b.counts(5, 6, 7)
	}
}

// TestAWayHasRoomAgain: behind a Take and behind a Cut as many may be put as are gone.
func TestAWayHasRoomAgain(t *testing.T) {
	b := holding(t, 3, "a b c")
	b.put(net.Letter{From: 2, To: 1, Bytes: "back"})
	b.take(1)
	if e := b.put(net.Letter{From: 1, To: 2, Bytes: "d"}); e != api.OK {
		t.Errorf("behind Take: %d", e)
	}
	if e := b.put(net.Letter{From: 1, To: 2, Bytes: "e"}); e != api.ErrFull {
		t.Errorf("one more: %d", e)
	}
	b.stand("a c back d")
	b.cut(2)
	for range 3 {
		if e := b.put(net.Letter{From: 1, To: 2, Bytes: "f"}); e != api.OK {
			t.Errorf("behind Cut: %d", e)
		}
	}
	if e := b.put(net.Letter{From: 1, To: 2, Bytes: "g"}); e != api.ErrFull {
		t.Errorf("one more behind Cut: %d", e)
	}
	b.stand("back f f f")
}

func TestBetweenTellsWaysApart(t *testing.T) {
	b := made(t, 9)
	for from := range 4 {
		for to := range 4 {
			for range from*2 + to%2 {
				b.put(net.Letter{From: from, To: to})
			}
		}
	}
	who := []int{math.MinInt, -1, 0, 1, 2, 3, 4, 255, 256, 257, 1 << 32, 1<<32 + 1, math.MaxInt}
	b.counts(who...)
	if b.n.Between(1, 3) != 3 || b.n.Between(3, 1) != 7 || b.n.Between(0, 0) != 0 {
		t.Errorf("%d, %d, %d", b.n.Between(1, 3), b.n.Between(3, 1), b.n.Between(0, 0))
	}
	for b.n.Len() > 0 {
		b.take(b.n.Len() / 3)
		b.counts(who...)
	}
}

// refuses asks that a net which New did not give answers nothing, whatever it is asked.
func refuses(t *testing.T, n *net.Net) {
	t.Helper()
	for _, k := range []int{math.MinInt, -1, 0, 1, 255, 256, math.MaxInt} {
		for _, bytes := range []string{"", "x", strings.Repeat("x", 1<<20+1)} {
			if e := n.Put(net.Letter{From: k, To: k, Bytes: bytes}); e != api.ErrArg {
				t.Errorf("Put from and to %d: %d", k, e)
			}
		}
		if l, ok := n.Take(k); l != (net.Letter{}) || ok {
			t.Errorf("Take(%d): %v, %v", k, l, ok)
		}
		if n.Twice(k) {
			t.Errorf("Twice(%d)", k)
		}
		if n.Len() != 0 || n.Between(k, k) != 0 || n.Cut(k) != 0 {
			t.Errorf("%d: there are letters", k)
		}
	}
}

func TestANetThatNewDidNotGive(t *testing.T) {
	refuses(t, nil)
	refuses(t, &net.Net{})
	refuses(t, new(net.Net))
	for _, most := range []int{-1, 0, 4097} {
		n, _ := net.New(most)
		refuses(t, n)
	}
}

// TestNetsAreApart: what is done with one net is not seen in another one.
func TestNetsAreApart(t *testing.T) {
	a, b := holding(t, 2, "a b"), holding(t, 2, "c")
	a.take(0)
	a.stand("b")
	b.stand("c")
	b.cut(2)
	b.counts(1, 2)
	a.twice(0)
	a.counts(1, 2)
	a.stand("b b")
	b.stand("")
}
