package net_test

import (
	"math"
	"rookery/api"
	"rookery/net"
	"runtime"
	"slices"
	"strconv"
	"strings"
	"testing"
)

// numbers are those by which a letter of so many is asked for.
func numbers(many int) []int {
	list := []int{math.MinInt, math.MinInt + 1, math.MinInt + many, math.MaxInt, math.MaxInt - 1, math.MaxInt - many,
		math.MinInt32, math.MaxInt32, 1 << 31, 1 << 32, 1<<32 + 1, -1 << 31, -1 << 32}
	for k := -2*many - 2; k <= 2*many+2; k++ {
		list = append(list, k)
	}
	return list
}

// row are so many names.
func row(many int) string {
	var names []string
	for i := range many {
		names = append(names, strconv.Itoa(i))
	}
	return strings.Join(names, " ")
}

func TestTakeAtEachPlace(t *testing.T) {
	for many := range 18 {
		for _, k := range numbers(many) {
			b := holding(t, 20, row(many))
			b.take(k)
			b.counts(1, 2)
			b.same()
		}
	}
}

// TestTakeOfKnownPlaces: 2^64 - 1 is 15 modulo 16 and 0 modulo 3, 2^63 is 0 modulo 16 and 2 modulo 3.
func TestTakeOfKnownPlaces(t *testing.T) {
	for _, c := range []struct {
		many, k int
		name    string
	}{
		{1, 0, "0"}, {1, 1, "0"}, {1, -1, "0"}, {1, math.MinInt, "0"}, {1, math.MaxInt, "0"},
		{3, 0, "0"}, {3, 2, "2"}, {3, 3, "0"}, {3, 4, "1"}, {3, -1, "0"}, {3, -2, "2"}, {3, -3, "1"}, {3, -4, "0"},
		{3, math.MinInt, "2"}, {3, math.MinInt + 1, "0"}, {3, math.MaxInt, "1"}, {3, math.MaxInt - 1, "0"},
		{16, -1, "15"}, {16, -16, "0"}, {16, -17, "15"}, {16, math.MinInt, "0"}, {16, math.MaxInt, "15"}, {16, 16, "0"}, {16, 31, "15"},
		{10, -1, "5"}, {10, -10, "6"}, {10, math.MinInt, "8"}, {10, math.MaxInt, "7"},
	} {
		b := holding(t, 20, row(c.many))
		if l, ok := b.take(c.k); !ok || l != (net.Letter{From: 1, To: 2, Bytes: c.name}) {
			t.Errorf("Take(%d) of %d: %v, %v, not %s", c.k, c.many, l, ok, c.name)
		}
		b.counts(1, 2)
		b = holding(t, 20, row(c.many))
		if !b.twice(c.k) {
			t.Errorf("Twice(%d) of %d", c.k, c.many)
		}
		b.stand(row(c.many) + " " + c.name)
	}
}

func TestTakeWhereThereAreNone(t *testing.T) {
	b := made(t, 1)
	for _, k := range numbers(1) {
		if l, ok := b.take(k); l != (net.Letter{}) || ok {
			t.Errorf("Take(%d): %v, %v", k, l, ok)
		}
		if b.twice(k) {
			t.Errorf("Twice(%d)", k)
		}
		b.counts(0, 1)
	}
	b.put(net.Letter{From: 7, To: 7, Bytes: "x"})
	b.take(0)
	for _, k := range numbers(1) {
		b.take(k)
		b.twice(k)
		b.counts(0, 7)
	}
}

// TestTakeLeavesTheOthersInTheirOrder: from each place of nets of a few letters, till none is left.
func TestTakeLeavesTheOthersInTheirOrder(t *testing.T) {
	b := holding(t, 9, "a b c d e")
	b.take(2)
	b.stand("a b d e")
	b.take(1)
	b.stand("a d e")
	b.put(net.Letter{From: 1, To: 2, Bytes: "f"})
	b.take(0)
	b.stand("d e f")
	b.take(2)
	b.stand("d e")
	for first := range 7 {
		for second := range 6 {
			for third := range 5 {
				b := holding(t, 9, "a b c d e f g")
				for _, k := range []int{first, second, third} {
					b.take(k)
					b.counts(1, 2)
				}
				b.put(net.Letter{From: 2, To: 1, Bytes: "h"})
				b.twice(first)
				b.counts(1, 2)
				b.same()
				for range 7 {
					b.take(second)
				}
				b.counts(1, 2)
			}
		}
	}
}

func TestTwiceAtEachPlace(t *testing.T) {
	for many := range 12 {
		for _, k := range numbers(many) {
			b := holding(t, 20, row(many))
			b.twice(k)
			b.counts(1, 2)
			b.same()
		}
	}
}

// TestTwiceUpToMost: only the way of the letter itself counts, and what is refused changes nothing.
func TestTwiceUpToMost(t *testing.T) {
	for _, most := range []int{1, 2, 3, 8} {
		b := made(t, most)
		b.put(net.Letter{From: 2, To: 1, Bytes: "back"})
		b.put(net.Letter{From: 1, To: 2, Bytes: "there"})
		for i := 1; i < most; i++ {
			if !b.twice(1) {
				t.Errorf("double %d of %d", i, most)
			}
			b.counts(1, 2)
		}
		for k := range most {
			if b.twice(1 + k) {
				t.Errorf("more than %d by Twice(%d)", most, 1+k)
			}
			b.counts(1, 2)
		}
		if e := b.put(net.Letter{From: 1, To: 2}); e != api.ErrFull {
			t.Errorf("one more than %d: %d", most, e)
		}
		b.stand("back" + strings.Repeat(" there", most))
		if got := b.twice(0); got != (most > 1) {
			t.Errorf("the way back: %v", got)
		}
		b.counts(1, 2)
		b.take(1)
		if got := b.twice(1); got != (most > 1) { // where most is 1 only the letter back is left, whose way is full
			t.Errorf("behind a Take: %v", got)
		}
		b.counts(1, 2)
		b.same()
	}
}

// TestTwiceBehindATakeOfTheOther: a letter and its double are two.
func TestTwiceBehindATakeOfTheOther(t *testing.T) {
	b := holding(t, 2, "a")
	b.twice(0)
	b.take(0)
	b.stand("a")
	if !b.twice(5) || b.twice(0) {
		t.Error("one of two is no more there, and may be doubled")
	}
	b.take(1)
	b.take(0)
	b.take(0)
	b.counts(1, 2)
}

func TestCutOfNoneOneAndMany(t *testing.T) {
	ways := [][2]int{{1, 2}, {2, 1}, {3, 2}, {1, 3}, {2, 2}, {0, 255}, {1, 2}, {2, 255}, {1, 0}}
	who := []int{-1, 0, 1, 2, 3, 255, 256}
	for _, to := range []int{math.MinInt, -1, 0, 1, 2, 3, 4, 254, 255, 256, 258, 1<<32 + 2, math.MaxInt} {
		b := made(t, 3)
		for i, way := range ways {
			b.put(net.Letter{From: way[0], To: way[1], Bytes: strconv.Itoa(i)})
		}
		b.cut(to)
		b.counts(who...)
		b.same()
		if b.cut(to) != 0 {
			t.Errorf("behind Cut(%d) some are there", to)
		}
		b.put(net.Letter{From: 1, To: 2, Bytes: "behind"})
		b.counts(who...)
		b.same()
	}
	b := made(t, 3)
	for i, way := range ways {
		b.put(net.Letter{From: way[0], To: way[1], Bytes: strconv.Itoa(i)})
	}
	for _, c := range []struct {
		to, lost int
		left     string
	}{{7, 0, "0 1 2 3 4 5 6 7 8"}, {3, 1, "0 1 2 4 5 6 7 8"}, {2, 4, "1 5 7 8"}, {255, 2, "1 8"}, {1, 1, "8"}, {0, 1, ""}, {0, 0, ""}} {
		if lost := b.cut(c.to); lost != c.lost {
			t.Errorf("Cut(%d): %d, not %d", c.to, lost, c.lost)
		}
		b.counts(who...)
		b.stand(c.left)
	}
}

func TestCutOfAllAndOfDoubles(t *testing.T) {
	b := holding(t, 4, "a b")
	b.twice(0)
	b.put(net.Letter{From: 2, To: 1, Bytes: "back"})
	b.twice(1)
	if b.cut(2) != 4 {
		t.Error("a letter's double stayed")
	}
	b.counts(1, 2)
	b.stand("back")
	b.cut(1)
	b.counts(1, 2)
	if _, ok := b.take(0); ok {
		t.Error("what was cut came")
	}
}

// draws are numbers that look as if they hung on nothing.
func draws(seed uint32) func(int) int {
	return func(below int) int {
		seed = seed*1664525 + 1013904223
		return int(seed>>8) % below
	}
}

// drawn is a number by which a letter is asked for.
func drawn(draw func(int) int, many int) int {
	switch draw(6) {
	case 0:
		return 0
	case 1:
		return many - 1
	case 2:
		return -1 - draw(1<<20)
	case 3:
		return math.MinInt + draw(1<<20)
	case 4:
		return math.MaxInt - draw(1<<20)
	}
	return draw(2*many + 3)
}

// anything does one of all there is to do to both nets; puts stand for so many of ten.
func (b both) anything(draw func(int) int, puts int) {
	b.Helper()
	k := drawn(draw, len(b.p.list))
	switch what := draw(10); {
	case what < puts:
		b.put(net.Letter{From: draw(5) - draw(2), To: draw(5), Bytes: strconv.Itoa(draw(1000))})
	case what == 9 && draw(6) == 0:
		b.cut(draw(6))
	case draw(3) == 0:
		b.twice(k)
	default:
		b.take(k)
	}
}

func TestANetIsAPlainOneWhateverIsDone(t *testing.T) {
	for seed := range uint32(80) {
		draw := draws(seed)
		b := made(t, 1+draw(12))
		for i := range 600 {
			b.anything(draw, 3+5*(i/100%2)) // it is filled and emptied by turns
			b.counts(-1, 0, 1, 2, 3, 4)
			if draw(50) == 0 {
				b.same()
			}
		}
		for b.n.Len() > 0 {
			b.take(draw(1000))
		}
		b.counts(-1, 0, 1, 2, 3, 4)
	}
}

// TestWhatComesWasPut is Ne2: each letter comes as often as it was put and doubled, but for how often it was lost, and none comes that was not put.
func TestWhatComesWasPut(t *testing.T) {
	for seed := range uint32(40) {
		draw := draws(seed)
		n := made(t, 1+draw(20)).n
		owed := map[net.Letter]int{} // how often each letter is to come yet
		come := func(k int) {
			l, ok := n.Take(k)
			if ok && owed[l] == 0 {
				t.Fatalf("%v came once too often, or was not put", l)
			}
			owed[l]--
		}
		for i := range 500 {
			switch draw(8) {
			case 0, 1, 2, 3:
				l := net.Letter{From: draw(3), To: draw(3), Bytes: strconv.Itoa(i)}
				if n.Put(l) == api.OK {
					owed[l]++
				}
			case 4, 5, 6:
				if n.Len() > 0 {
					come(drawn(draw, n.Len()))
				}
			case 7:
				before := n.Len()
				if !n.Twice(0) {
					break
				}
				l, _ := n.Take(before) // the double
				owed[l]++
				if e := n.Put(l); e != api.OK {
					t.Fatalf("the double is not put again: %d", e)
				}
			}
		}
		to := draw(4)
		lost := 0
		for l, k := range owed {
			if l.To == to {
				lost += k
				owed[l] = 0
			}
		}
		if got := n.Cut(to); got != lost {
			t.Errorf("Cut(%d): %d, not %d", to, got, lost)
		}
		for n.Len() > 0 {
			come(draw(1000))
		}
		for l, k := range owed {
			if k != 0 {
				t.Errorf("%v did not come %d times", l, k)
			}
		}
	}
}

// TestWhatIsPutOnceComesOnce: of letters that all differ each comes once, in whatever order they are taken.
func TestWhatIsPutOnceComesOnce(t *testing.T) {
	for seed := range uint32(20) {
		draw := draws(seed)
		n := made(t, 4096).n
		var want, got []string
		for i := range 2000 {
			name := strconv.Itoa(10000 + i)
			want = append(want, name)
			n.Put(net.Letter{From: i % 3, To: i % 5, Bytes: name})
		}
		for n.Len() > 0 {
			l, ok := n.Take(drawn(draw, n.Len()))
			if i, _ := strconv.Atoi(l.Bytes); !ok || l.From != (i-10000)%3 || l.To != (i-10000)%5 {
				t.Fatalf("%v, %v came", l, ok)
			}
			got = append(got, l.Bytes)
		}
		slices.Sort(got)
		if !slices.Equal(got, want) {
			t.Errorf("%d letters came, and not each once", len(got))
		}
	}
}

// held is how many bytes of memory are in use.
func held() int {
	runtime.GC()
	runtime.GC()
	var m runtime.MemStats
	runtime.ReadMemStats(&m)
	return int(m.HeapAlloc)
}

// putMany puts so many letters of the same length.
func putMany(n *net.Net, many, size int) {
	for i := range many {
		n.Put(net.Letter{From: i % 2, To: i % 3, Bytes: strings.Repeat(string([]byte{byte(i)}), size)})
	}
}

// takeMany takes so many letters, each by the number that is told of how many there are.
func takeMany(n *net.Net, many int, number func(int) int) {
	for range many {
		n.Take(number(n.Len()))
	}
}

// TestANetHoldsNoMoreThanItsLetters: neither what was taken and cut, nor the text of which a letter is a piece.
func TestANetHoldsNoMoreThanItsLetters(t *testing.T) {
	const many, size, few = 300, 1 << 16, 40
	for what, do := range map[string]func(*net.Net){
		"the first ones are taken": func(n *net.Net) {
			putMany(n, many, size)
			putMany(n, few, 1)
			takeMany(n, many, func(int) int { return 0 })
		},
		"the last ones are taken": func(n *net.Net) {
			putMany(n, few, 1)
			putMany(n, many, size)
			takeMany(n, many, func(len int) int { return len - 1 })
		},
		"all but the first ones and the last ones are taken": func(n *net.Net) {
			putMany(n, few/2, 1)
			putMany(n, many, size)
			putMany(n, few/2, 1)
			takeMany(n, many, func(len int) int { return len / 2 })
		},
		"all but a few are cut": func(n *net.Net) {
			for range few {
				n.Put(net.Letter{From: 9, To: 9})
			}
			putMany(n, many, size)
			for to := range 3 {
				n.Cut(to)
			}
		},
		"pieces of long texts": func(n *net.Net) {
			for i := range few {
				n.Put(net.Letter{Bytes: strings.Repeat(string([]byte{byte(i)}), many/few*size)[:3]})
			}
		},
	} {
		n := made(t, many).n
		before := held()
		do(n)
		if more := held() - before; n.Len() != few || more > many*size/8 {
			t.Errorf("%s: %d letters hold %d bytes", what, n.Len(), more)
		}
		runtime.KeepAlive(n)
	}
}

// TestANetHoldsNoBytesThatAreGone: not even while more letters are left than are gone, and their places are kept.
func TestANetHoldsNoBytesThatAreGone(t *testing.T) {
	const gone, size, left = 200, 1 << 16, 300
	for what, do := range map[string]func(*net.Net){
		"the first ones are taken": func(n *net.Net) {
			putMany(n, gone, size)
			putMany(n, left, 1)
			takeMany(n, gone, func(int) int { return 0 })
		},
		"the last ones are taken": func(n *net.Net) {
			putMany(n, left, 1)
			putMany(n, gone, size)
			takeMany(n, gone, func(len int) int { return len - 1 })
		},
		"some are cut": func(n *net.Net) {
			for i := range left + gone {
				l := net.Letter{To: 1}
				if i >= left {
					l = net.Letter{Bytes: strings.Repeat("x", size)}
				}
				n.Put(l)
			}
			n.Cut(0)
		},
	} {
		n := made(t, left).n
		before := held()
		do(n)
		if more := held() - before; n.Len() != left || more > gone*size/8 {
			t.Errorf("%s: %d letters hold %d bytes", what, n.Len(), more)
		}
		runtime.KeepAlive(n)
	}
}

// TestANetLetsGoOfThePlacesOfMany: a few letters do not hold the memory in which many stood.
func TestANetLetsGoOfThePlacesOfMany(t *testing.T) {
	const most, ways, few = 4096, 64, 5
	for what, number := range map[string]func(int) int{
		"first": func(int) int { return 0 }, "last": func(len int) int { return len - 1 },
	} {
		n := made(t, most).n
		before := held()
		for i := range most * ways {
			n.Put(net.Letter{From: i % ways})
		}
		full := held() - before
		takeMany(n, most*ways-few, number)
		if more := held() - before; n.Len() != few || more > full/20 {
			t.Errorf("of %d bytes %d are held by %d letters, behind the %s was taken", full, more, n.Len(), what)
		}
		runtime.KeepAlive(n)
	}
}
