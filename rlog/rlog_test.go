package rlog_test

import (
	"math"
	"rookery/api"
	"rookery/rlog"
	"runtime"
	"slices"
	"strconv"
	"strings"
	"testing"
)

// need asks that a call is answered so.
func need(t *testing.T, what string, got, want api.Errno) {
	t.Helper()
	if got != want {
		t.Errorf("%s: %d, not %d", what, got, want)
	}
}

// made is a log whose entries have these terms, and as data their indexes; and the plain log of the same.
func made(t *testing.T, base, term int, terms ...int) (*rlog.Log, *plain) {
	t.Helper()
	l, e := rlog.New(base, term)
	if l == nil || e != api.OK {
		t.Fatalf("New(%d, %d): %v, %d", base, term, l, e)
	}
	p := newPlain(base, term)
	for i, n := range terms {
		add(t, l, p, api.Entry{Term: n, Data: strconv.Itoa(base + 1 + i)})
	}
	return l, p
}

// add puts an entry behind both logs, which must answer the same.
func add(t *testing.T, l *rlog.Log, p *plain, x api.Entry) {
	t.Helper()
	n, e := l.Append(x)
	if m, f := p.append(x); n != m || e != f {
		t.Errorf("Append of term %d and %d bytes: %d, %d, not %d, %d", x.Term, len(x.Data), n, e, m, f)
	}
}

func TestNewTakesIndexesAndTermsUpToMaxIndex(t *testing.T) {
	numbers := []int{math.MinInt, -1, 0, 1, 7, api.MaxIndex - 1, api.MaxIndex, api.MaxIndex + 1, math.MaxInt}
	may := func(n int) bool { return n >= 0 && n <= 1<<40 }
	for _, base := range numbers {
		for _, term := range numbers {
			if may(base) && may(term) {
				l, p := made(t, base, term)
				same(t, l, p)
			} else if l, e := rlog.New(base, term); l != nil || e != api.ErrArg {
				t.Errorf("New(%d, %d): %v, %d", base, term, l, e)
			}
		}
	}
}

func TestTheChaptersExample(t *testing.T) {
	l, _ := rlog.New(5, 2)
	if n, e := l.Append(api.Entry{Term: 3}); n != 6 || e != api.OK {
		t.Errorf("Append: %d, %d", n, e)
	}
	if n, e := l.Term(5); n != 2 || e != api.OK {
		t.Errorf("Term: %d, %d", n, e)
	}
	need(t, "Compact", l.Compact(6), api.OK)
	if l.Base() != 6 || l.Last() != 6 {
		t.Errorf("from %d to %d", l.Base(), l.Last())
	}
	if n, e := l.Term(6); n != 3 || e != api.OK {
		t.Errorf("Term: %d, %d", n, e)
	}
	if n, e := l.Term(5); n != 0 || e != api.ErrGone {
		t.Errorf("Term: %d, %d", n, e)
	}
}

func TestTermAroundTheLog(t *testing.T) {
	l, _ := made(t, 5, 2, 2, 3, 3, 5)
	asked := []struct {
		index, term int
		e           api.Errno
	}{
		{math.MinInt, 0, api.ErrGone}, {-1, 0, api.ErrGone}, {0, 0, api.ErrGone}, {4, 0, api.ErrGone},
		{5, 2, api.OK}, {6, 2, api.OK}, {7, 3, api.OK}, {8, 3, api.OK}, {9, 5, api.OK},
		{10, 0, api.ErrNone}, {11, 0, api.ErrNone}, {math.MaxInt, 0, api.ErrNone},
	}
	for _, a := range asked {
		if n, e := l.Term(a.index); n != a.term || e != a.e {
			t.Errorf("Term(%d): %d, %d, not %d, %d", a.index, n, e, a.term, a.e)
		}
	}
}

func TestEntryAroundTheLog(t *testing.T) {
	l, _ := made(t, 5, 2, 2, 3, 3, 5)
	none := api.Entry{}
	asked := []struct {
		index int
		x     api.Entry
		e     api.Errno
	}{
		{math.MinInt, none, api.ErrGone}, {4, none, api.ErrGone}, {5, none, api.ErrGone},
		{6, api.Entry{Term: 2, Data: "6"}, api.OK}, {7, api.Entry{Term: 3, Data: "7"}, api.OK},
		{8, api.Entry{Term: 3, Data: "8"}, api.OK}, {9, api.Entry{Term: 5, Data: "9"}, api.OK},
		{10, none, api.ErrNone}, {11, none, api.ErrNone}, {math.MaxInt, none, api.ErrNone},
	}
	for _, a := range asked {
		if x, e := l.Entry(a.index); x != a.x || e != a.e {
			t.Errorf("Entry(%d): %v, %d, not %v, %d", a.index, x, e, a.x, a.e)
		}
	}
}

func TestSliceAroundTheLog(t *testing.T) {
	l, _ := made(t, 5, 2, 2, 3, 3, 5)
	all := []api.Entry{{Term: 2, Data: "6"}, {Term: 3, Data: "7"}, {Term: 3, Data: "8"}, {Term: 5, Data: "9"}}
	asked := []struct {
		index, most int
		list        []api.Entry
		e           api.Errno
	}{
		{6, math.MinInt, nil, api.ErrArg}, {6, -1, nil, api.ErrArg}, {5, -1, nil, api.ErrArg}, {11, -1, nil, api.ErrArg},
		{math.MinInt, 1, nil, api.ErrGone}, {4, 1, nil, api.ErrGone}, {5, 0, nil, api.ErrGone}, {5, 9, nil, api.ErrGone},
		{6, 0, nil, api.OK}, {6, 1, all[:1], api.OK}, {6, 3, all[:3], api.OK}, {6, 4, all, api.OK},
		{6, 5, all, api.OK}, {6, math.MaxInt, all, api.OK}, {8, 1, all[2:3], api.OK}, {8, 9, all[2:], api.OK},
		{9, 0, nil, api.OK}, {9, 1, all[3:], api.OK}, {9, math.MaxInt, all[3:], api.OK},
		{10, 0, nil, api.OK}, {10, 1, nil, api.OK}, {10, math.MaxInt, nil, api.OK},
		{11, 0, nil, api.ErrNone}, {11, 9, nil, api.ErrNone}, {math.MaxInt, math.MaxInt, nil, api.ErrNone},
	}
	for _, a := range asked {
		if list, e := l.Slice(a.index, a.most); !slices.Equal(list, a.list) || e != a.e {
			t.Errorf("Slice(%d, %d): %v, %d, not %v, %d", a.index, a.most, list, e, a.list, a.e)
		}
	}
}

func TestAppendTakesTermsThatDoNotGoDown(t *testing.T) {
	l, p := made(t, 5, 2)
	asked := []struct {
		term, index int
		e           api.Errno
	}{
		{math.MinInt, 0, api.ErrOrder}, {-1, 0, api.ErrOrder}, {1, 0, api.ErrOrder}, // below the base's
		{2, 6, api.OK}, {1, 0, api.ErrOrder}, {2, 7, api.OK}, {4, 8, api.OK}, {3, 0, api.ErrOrder}, {4, 9, api.OK},
		{api.MaxIndex + 1, 0, api.ErrArg}, {math.MaxInt, 0, api.ErrArg},
		{api.MaxIndex, 10, api.OK}, {api.MaxIndex - 1, 0, api.ErrOrder}, {api.MaxIndex, 11, api.OK},
		{api.MaxIndex + 1, 0, api.ErrArg},
	}
	for _, a := range asked {
		x := api.Entry{Term: a.term, Data: "x"}
		if n, e := l.Append(x); n != a.index || e != a.e {
			t.Errorf("Append of term %d: %d, %d, not %d, %d", a.term, n, e, a.index, a.e)
		}
		p.append(x)
		same(t, l, p)
	}
}

func TestAppendOfNoTermBehindABaseOfNone(t *testing.T) {
	l, p := made(t, 0, 0)
	add(t, l, p, api.Entry{Term: -1})
	add(t, l, p, api.Entry{})
	same(t, l, p)
	if l.Last() != 1 {
		t.Errorf("Last: %d", l.Last())
	}
}

func TestAppendTakesDataUpToMaxRecord(t *testing.T) {
	l, p := made(t, 0, 3, 3)
	long := strings.Repeat("x", 1<<18+1)
	add(t, l, p, api.Entry{Term: 3, Data: long})
	if l.Last() != 1 {
		t.Errorf("Last: %d", l.Last())
	}
	add(t, l, p, api.Entry{Term: 2, Data: long}) // both: data that is too long is told first
	add(t, l, p, api.Entry{Term: 3, Data: long[:1<<18]})
	add(t, l, p, api.Entry{Term: 3, Data: "\x00\xff\n"})
	same(t, l, p)
	if l.Last() != 3 {
		t.Errorf("Last: %d", l.Last())
	}
	if _, e := l.Append(api.Entry{Term: 2, Data: long}); e != api.ErrArg {
		t.Errorf("a term too low and data too long: %d", e)
	}
}

func TestAppendUpToMaxIndex(t *testing.T) {
	l, p := made(t, api.MaxIndex-2, 1)
	add(t, l, p, api.Entry{Term: 1})
	add(t, l, p, api.Entry{Term: 4, Data: "last"})
	same(t, l, p)
	full(t, l, p)
	need(t, "Compact", l.Compact(api.MaxIndex), p.compact(api.MaxIndex))
	full(t, l, p)
	need(t, "Cut one behind MaxIndex", l.Cut(api.MaxIndex+1), p.cut(api.MaxIndex+1))
	full(t, l, p)
	l, p = made(t, api.MaxIndex, 4)
	full(t, l, p)
	l, p = made(t, api.MaxIndex-1, 4, 4)
	full(t, l, p)
	need(t, "Cut", l.Cut(api.MaxIndex), api.OK)
	if n, e := l.Append(api.Entry{Term: 4}); n != api.MaxIndex || e != api.OK {
		t.Errorf("Append behind Cut: %d, %d", n, e)
	}
}

// full asks that a log which ends at MaxIndex with term 4 takes no entry, and tells the errors in their order.
func full(t *testing.T, l *rlog.Log, p *plain) {
	t.Helper()
	refused := []struct {
		x api.Entry
		e api.Errno
	}{
		{api.Entry{Term: 4}, api.ErrFull}, {api.Entry{Term: 5, Data: "x"}, api.ErrFull},
		{api.Entry{Term: 3}, api.ErrOrder}, {api.Entry{Term: api.MaxIndex + 1}, api.ErrArg},
		{api.Entry{Term: 3, Data: strings.Repeat("x", api.MaxRecord+1)}, api.ErrArg},
	}
	for _, r := range refused {
		if n, e := l.Append(r.x); n != 0 || e != r.e {
			t.Errorf("Append of term %d: %d, %d, not %d", r.x.Term, n, e, r.e)
		}
	}
	same(t, l, p)
}

func TestCutAtEachIndex(t *testing.T) {
	for _, terms := range [][]int{{}, {2}, {4}, {2, 2}, {2, 3, 3, 5}, {3, 3, 3, 3, 7, 8, 8}} {
		for index := 4; index <= 5+len(terms)+2; index++ {
			l, p := made(t, 5, 2, terms...)
			need(t, "Cut", l.Cut(index), p.cut(index))
			same(t, l, p)
			before, _ := p.term(p.last)
			add(t, l, p, api.Entry{Term: before - 1, Data: "too low"})
			add(t, l, p, api.Entry{Term: before, Data: "next"})
			add(t, l, p, api.Entry{Term: before + 1, Data: "more"})
			same(t, l, p)
		}
	}
	l, p := made(t, 5, 2, 2, 3)
	need(t, "Cut of the least number", l.Cut(math.MinInt), api.ErrGone)
	need(t, "Cut of the greatest number", l.Cut(math.MaxInt), api.ErrNone)
	same(t, l, p)
}

func TestCompactAtEachIndex(t *testing.T) {
	for _, terms := range [][]int{{}, {2}, {4}, {2, 2}, {2, 3, 3, 5}, {3, 3, 3, 3, 7, 8, 8}} {
		for index := 4; index <= 5+len(terms)+2; index++ {
			l, p := made(t, 5, 2, terms...)
			need(t, "Compact", l.Compact(index), p.compact(index))
			same(t, l, p)
			last, _ := p.term(p.last)
			add(t, l, p, api.Entry{Term: last - 1, Data: "too low"})
			add(t, l, p, api.Entry{Term: last, Data: "next"})
			add(t, l, p, api.Entry{Term: last + 1, Data: "more"})
			same(t, l, p)
		}
	}
	l, p := made(t, 5, 2, 2, 3)
	need(t, "Compact of the least number", l.Compact(math.MinInt), api.ErrGone)
	need(t, "Compact of the greatest number", l.Compact(math.MaxInt), api.ErrNone)
	same(t, l, p)
}

func TestCutAndCompactBehindEachOther(t *testing.T) {
	for first := 4; first <= 13; first++ {
		for second := 4; second <= 13; second++ {
			l, p := made(t, 5, 2, 2, 3, 3, 5, 6, 6)
			need(t, "Cut", l.Cut(first), p.cut(first))
			need(t, "Compact", l.Compact(second), p.compact(second))
			same(t, l, p)
			l, p = made(t, 5, 2, 2, 3, 3, 5, 6, 6)
			need(t, "Compact", l.Compact(first), p.compact(first))
			need(t, "Cut", l.Cut(second), p.cut(second))
			same(t, l, p)
		}
	}
}

func TestNewerAroundTheLast(t *testing.T) {
	l, _ := made(t, 5, 2, 2, 3)
	base, _ := made(t, 7, 3) // of a log without entries its base is the last one
	for _, a := range []struct {
		index, term int
		newer       bool
	}{
		{6, 2, false}, {7, 2, false}, {8, 2, false}, {math.MaxInt, 2, false}, {8, math.MinInt, false},
		{6, 3, false}, {7, 3, true}, {8, 3, true}, {math.MinInt, 3, false}, {math.MaxInt, 3, true},
		{6, 4, true}, {7, 4, true}, {8, 4, true}, {math.MinInt, 4, true}, {0, math.MaxInt, true},
	} {
		for _, log := range []*rlog.Log{l, base} {
			if got := log.Newer(a.index, a.term); got != a.newer {
				t.Errorf("Newer(%d, %d): %v", a.index, a.term, got)
			}
		}
	}
}

func TestWhatSliceHandsOutIsNewMemory(t *testing.T) {
	l, p := made(t, 5, 2, 2, 3, 3, 5, 5, 5, 5)
	first, _ := l.Slice(7, 3)
	second, _ := l.Slice(7, 3)
	keep := slices.Clone(first)
	first[0], first[2] = api.Entry{Term: 9, Data: "turned"}, api.Entry{}
	first = append(first, api.Entry{Term: 9, Data: "into the log?"}, api.Entry{Term: 9, Data: "and more?"})
	if !slices.Equal(second, keep) {
		t.Errorf("two answers share memory: %v", second)
	}
	same(t, l, p)
	step := func(what string, got, want api.Errno) {
		t.Helper()
		need(t, what, got, want)
		add(t, l, p, api.Entry{Term: 6, Data: what})
		same(t, l, p)
		if !slices.Equal(second, keep) {
			t.Errorf("behind %s the answer is %v", what, second)
		}
	}
	step("Append", api.OK, api.OK)
	step("Cut", l.Cut(8), p.cut(8))
	step("Cut", l.Cut(7), p.cut(7))
	step("Compact", l.Compact(6), p.compact(6))
	step("Compact", l.Compact(7), p.compact(7))
	if first[0].Data != "turned" || first[3].Data != "into the log?" || first[4].Data != "and more?" {
		t.Errorf("the log wrote into an answer: %v", first)
	}
}

// refuses asks that a log which New did not give answers nothing.
func refuses(t *testing.T, l *rlog.Log) {
	t.Helper()
	for _, index := range []int{-1, 0, 1, math.MaxInt} {
		if n, e := l.Term(index); n != 0 || e != api.ErrArg {
			t.Errorf("Term(%d): %d, %d", index, n, e)
		}
		if x, e := l.Entry(index); x != (api.Entry{}) || e != api.ErrArg {
			t.Errorf("Entry(%d): %v, %d", index, x, e)
		}
		for _, most := range []int{-1, 0, 1} {
			if s, e := l.Slice(index, most); len(s) != 0 || e != api.ErrArg {
				t.Errorf("Slice(%d, %d): %v, %d", index, most, s, e)
			}
		}
		need(t, "Cut", l.Cut(index), api.ErrArg)
		need(t, "Compact", l.Compact(index), api.ErrArg)
		for _, term := range []int{-1, 0, 1} {
			if n, e := l.Append(api.Entry{Term: term}); n != 0 || e != api.ErrArg {
				t.Errorf("Append of term %d: %d, %d", term, n, e)
			}
			if l.Newer(index, term) {
				t.Errorf("Newer(%d, %d)", index, term)
			}
		}
	}
	if l.Base() != 0 || l.Last() != 0 {
		t.Errorf("from %d to %d", l.Base(), l.Last())
	}
}

func TestALogThatNewDidNotGive(t *testing.T) {
	refuses(t, nil)
	refuses(t, &rlog.Log{})
	l, _ := rlog.New(-1, 0)
	refuses(t, l)
}

// draws are numbers that look as if they hung on nothing.
func draws(seed uint32) func(int) int {
	return func(below int) int {
		seed = seed*1664525 + 1013904223
		return int(seed>>8) % below
	}
}

// Rl3: whatever is done, terms do not go down along the log, and what is left behind a base is what was there.
func TestALogIsAPlainOneWhateverIsDone(t *testing.T) {
	for seed := range uint32(60) {
		draw := draws(seed)
		l, p := made(t, draw(20), draw(4))
		for range 150 {
			index := p.base - 2 + draw(p.last-p.base+5)
			switch draw(8) {
			case 0:
				need(t, "Cut", l.Cut(index), p.cut(index))
			case 1:
				need(t, "Compact", l.Compact(index), p.compact(index))
			default:
				term := p.terms[p.last] - 1 + draw(3)
				add(t, l, p, api.Entry{Term: term, Data: strconv.Itoa(draw(1000))})
			}
			same(t, l, p)
			rises(t, l)
		}
	}
}

// rises asks that terms do not go down from the base on.
func rises(t *testing.T, l *rlog.Log) {
	t.Helper()
	before, _ := l.Term(l.Base())
	for index := l.Base() + 1; index <= l.Last(); index++ {
		term, e := l.Term(index)
		if term < before || e != api.OK {
			t.Errorf("term %d behind %d", term, before)
		}
		before = term
	}
}

// Rl3: each index that stays answers behind Compact what it answered ahead of it.
func TestCompactChangesNothingBehindIt(t *testing.T) {
	for base := 5; base <= 15; base++ {
		l, _ := made(t, 5, 1, 1, 2, 2, 3, 5, 5, 5, 8, 9, 9)
		terms, entries := map[int]int{}, map[int]api.Entry{}
		for i := 5; i <= 15; i++ {
			terms[i], _ = l.Term(i)
			entries[i], _ = l.Entry(i)
		}
		need(t, "Compact", l.Compact(base), api.OK)
		if l.Last() != 15 || !l.Newer(15, 9) || l.Newer(14, 9) {
			t.Errorf("Compact(%d): another end: %d", base, l.Last())
		}
		for i := base; i <= 15; i++ {
			if n, e := l.Term(i); n != terms[i] || e != api.OK {
				t.Errorf("Term(%d): %d, %d behind Compact(%d)", i, n, e, base)
			}
			if x, e := l.Entry(i); i > base && (x != entries[i] || e != api.OK) {
				t.Errorf("Entry(%d): %v, %d behind Compact(%d)", i, x, e, base)
			}
		}
	}
}

// Two logs have nothing in common, and a log is left as it was by questions.
func TestLogsAreOnTheirOwn(t *testing.T) {
	l, p := made(t, 5, 2, 2, 3)
	m, q := made(t, 5, 2, 2, 3)
	need(t, "Cut", l.Cut(7), p.cut(7))
	add(t, l, p, api.Entry{Term: 4, Data: "other"})
	need(t, "Compact", m.Compact(6), q.compact(6))
	same(t, l, p)
	same(t, m, q)
	same(t, l, p)
}

// A long log goes through as many short steps as it has entries, without moving all of them each time.
func TestALongLogInShortSteps(t *testing.T) {
	const many = 1 << 15
	l, _ := made(t, 0, 1)
	for range many {
		l.Append(api.Entry{Term: 1})
	}
	bytes := allocated(func() {
		for i := range many {
			l.Cut(l.Last())
			l.Append(api.Entry{Term: 1 + i})
			l.Append(api.Entry{Term: 1 + i})
			l.Compact(l.Base() + 1)
		}
	})
	if l.Base() != many || l.Last() != 2*many {
		t.Errorf("from %d to %d", l.Base(), l.Last())
	}
	if bytes > many*2000 {
		t.Errorf("%d bytes of memory for %d steps", bytes, many)
	}
}

// What is cut or compacted is not kept, and neither is what handed-in data is a piece of.
func TestWhatIsGoneIsNotKept(t *testing.T) {
	const size, many = 1 << 18, 200
	grow := func(l *rlog.Log, data func() string) {
		for range many {
			l.Append(api.Entry{Term: 1, Data: data()})
		}
	}
	whole := func() string { return strings.Repeat("x", size) }
	for _, c := range []struct {
		what string
		data func() string
		drop func(l *rlog.Log)
	}{
		{"Cut of all", whole, func(l *rlog.Log) { l.Cut(1) }},
		{"Cut of some", whole, func(l *rlog.Log) { l.Cut(many + 1 - many/4); l.Cut(many + 1 - many/2) }},
		{"Compact of all", whole, func(l *rlog.Log) { l.Compact(many) }},
		{"Compact of some", whole, func(l *rlog.Log) { l.Compact(many / 4); l.Compact(many / 2) }},
		{"a piece", func() string { return whole()[:1] }, func(*rlog.Log) {}},
	} {
		l, _ := made(t, 0, 1)
		before := inUse()
		grow(l, c.data)
		c.drop(l)
		left := (inUse() - before) / size
		if most := many/2 + 10; left > most {
			t.Errorf("%s: %d of %d texts are kept, not %d at the most", c.what, left, many, most)
		}
		runtime.KeepAlive(l)
	}
}

// A log that has become short does not hold the room of the long one that it was.
func TestAShortLogHoldsNoLongOnesRoom(t *testing.T) {
	const many = 1 << 17
	for what, drop := range map[string]func(l *rlog.Log, n int){
		"Cut":     func(l *rlog.Log, n int) { l.Cut(l.Last() + 1 - n) },
		"Compact": func(l *rlog.Log, n int) { l.Compact(l.Base() + n) },
	} {
		l, _ := made(t, 0, 1)
		before := inUse()
		for range many {
			l.Append(api.Entry{Term: 1})
		}
		for range 128 {
			drop(l, (many-8)/128)
		}
		if held := inUse() - before; held > many {
			t.Errorf("%s: %d bytes are held for %d entries", what, held, l.Last()-l.Base())
		}
		runtime.KeepAlive(l)
	}
}

// allocated is how many bytes of memory a call asks for.
func allocated(call func()) int {
	var before, behind runtime.MemStats
	runtime.ReadMemStats(&before)
	call()
	runtime.ReadMemStats(&behind)
	return int(behind.TotalAlloc - before.TotalAlloc)
}

// inUse is how many bytes of memory are held.
func inUse() int {
	runtime.GC()
	runtime.GC()
	var m runtime.MemStats
	runtime.ReadMemStats(&m)
	return int(m.HeapAlloc)
}
