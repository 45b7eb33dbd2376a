package wal_test

import (
	"rookery/api"
	"rookery/disk"
	"strings"
	"testing"
)

// TestCleanOfWhateverRecords: Saved stays, all survives, Size is within its bound.
func TestCleanOfWhateverRecords(t *testing.T) {
	for seed := range uint32(40) {
		draw := draws(seed)
		limit := 1 + draw(3000)
		d := made(t, 1<<18)
		l := opened(t, d, limit)
		var records []api.Record
		for range 8 {
			for range draw(30) {
				r := drawn(records, draw)
				put(t, l, r)
				records = append(records, r)
			}
			was := l.Size()
			if e := kept(t, d, l, l.Clean); e != api.OK {
				t.Fatalf("seed %d: Clean: %d", seed, e)
			}
			if n := l.Size(); n > max(bound(records), was) || n != d.Used() {
				t.Errorf("Size was %d, is %d (the disk has %d)", was, n, d.Used())
			}
			survived(t, l, records, len(records))
			d.Crash(alike(draw(50)), draw(256))
			l = opened(t, d, limit)
			survived(t, l, records, len(records))
		}
	}
}

// TestCleanLetsGo: of many entries, much data, many votes that nobody needs any more next to nothing is left.
func TestCleanLetsGo(t *testing.T) {
	for _, limit := range []int{1 << 10, 1 << 14, api.MaxDisk} {
		d := made(t, 1<<20)
		l := opened(t, d, limit)
		for i := range 100 {
			for g := range api.MaxGroups {
				put(t, l, entry(g, i+1, 1, strings.Repeat("x", 100)), hard(g, i, -1))
			}
		}
		records := []api.Record{}
		for g := range api.MaxGroups {
			put(t, l, base(g, 98, 1, "b"))
			records = append(records, hard(g, 99, -1), base(g, 98, 1, "b"), entry(g, 99, 1, strings.Repeat("x", 100)), entry(g, 100, 1, strings.Repeat("x", 100)))
		}
		if l.Size() < 1<<16 {
			t.Error("Size ahead of Clean:", l.Size())
		}
		need(t, "Clean", l.Clean(), api.OK)
		if n := l.Size(); n > bound(records) || n > 4096 {
			t.Error("Size:", n)
		}
		survived(t, l, records, len(records))
		d.Crash(nil, 0)
		survived(t, opened(t, d, limit), records, len(records))
	}
}

// TestCleanOfManyEntries: what is needed stays, at its fields' ends, too.
func TestCleanOfManyEntries(t *testing.T) {
	const top = api.MaxIndex
	d := made(t, 1<<22)
	l := opened(t, d, 1<<12)
	var records []api.Record
	for g := range api.MaxGroups {
		records = append(records, hard(g, top, api.MaxNodes-1), base(g, top-200, top, most[:g*1000]))
		for i := range 200 {
			records = append(records, entry(g, top-199+i, top, ""))
		}
	}
	put(t, l, records...)
	for range 3 {
		need(t, "Clean", l.Clean(), api.OK)
		if n := l.Size(); n > bound(records) {
			t.Errorf("Size: %d, above %d", n, bound(records))
		}
		survived(t, l, records, len(records))
		d.Crash(alike(1), 1)
		l = opened(t, d, 1<<12)
		survived(t, l, records, len(records))
	}
}

func TestCleanOfNothing(t *testing.T) {
	for _, records := range [][]api.Record{nil, {hard(0, 0, -1)}, {base(3, 0, 0, "")}, {entry(1, 1, 1, "x"), cut(1, 1)}} {
		d := made(t, 200)
		l := opened(t, d, 60)
		put(t, l, records...)
		need(t, "Clean", l.Clean(), api.OK)
		if n := l.Size(); n > 4096 {
			t.Error("Size:", n)
		}
		survived(t, l, records, len(records))
		put(t, l, entry(2, 1, 1, "y"))
		l.Sync()
		d.Crash(nil, 0)
		survived(t, opened(t, d, 60), append(records, entry(2, 1, 1, "y")), len(records)+1)
	}
}

// TestCleanMakesRoom: what a disk's room would not take uncleaned goes on for long.
func TestCleanMakesRoom(t *testing.T) {
	for _, limit := range []int{1, 100, api.MaxDisk} {
		d := made(t, 4096)
		l := opened(t, d, limit)
		var records []api.Record
		for i := range 1000 {
			r := entry(0, i+1, 1, "some data that is needed for a while")
			b := base(0, i+1, 1, "what all these made")
			records = []api.Record{hard(0, i, 1), b}
			put(t, l, hard(0, i, 1), r, b)
			if l.Size() > 1024 {
				need(t, "Clean", l.Clean(), api.OK)
			}
		}
		need(t, "Clean", l.Clean(), api.OK)
		survived(t, opened(t, d, limit), records, len(records))
	}
}

// TestCleanOfSegmentsThatAreMany: below 200 it is not refused; and a log of more records than segments may be is cleaned with any limit.
func TestCleanOfSegmentsThatAreMany(t *testing.T) {
	d := made(t, 1<<16)
	l := opened(t, d, 1)
	var records []api.Record
	for i := range 199 {
		records = append(records, entry(0, i+1, 1, ""))
	}
	put(t, l, records...)
	need(t, "Clean", l.Clean(), api.OK)
	survived(t, l, records, len(records))
	l = opened(t, d, api.MaxDisk)
	for i := range 300 {
		records = append(records, entry(0, i+200, 1, ""))
		put(t, l, entry(0, i+200, 1, ""))
	}
	l = opened(t, d, 1)
	need(t, "Clean", l.Clean(), api.OK)
	survived(t, l, records, len(records))
	put(t, l, hard(0, 1, 1))
	d.Crash(alike(1), 1)
	survived(t, opened(t, d, 1), append(records, hard(0, 1, 1)), len(records))
}

// TestCleanOfAFullDisk: with each room that is left; what is refused changes nothing, and what was synced survives.
func TestCleanOfAFullDisk(t *testing.T) {
	for _, limit := range []int{60, api.MaxDisk} {
		big := made(t, 1<<13)
		l := opened(t, big, limit)
		records := kindsInARow()
		put(t, l, records...)
		l.Sync()
		put(t, l, hard(0, 9, 2))
		records = append(records, hard(0, 9, 2))
		told := map[api.Errno]int{}
		for left := range 600 {
			d := twin(t, big, big.Used()+left)
			l := opened(t, d, limit)
			was := l.Size()
			e := kept(t, d, l, l.Clean)
			if told[e]++; e == api.OK && l.Size() > max(bound(records), was) {
				t.Errorf("Size: %d", l.Size())
			}
			survived(t, l, records, len(records))
			d.Crash(alike(left), left)
			survived(t, opened(t, d, limit), records, len(records))
		}
		if told[api.OK]+told[api.ErrDisk] != 600 || told[api.OK] == 0 {
			t.Error("how often was answered what:", told)
		}
	}
}

// TestThePowerFailsWithinClean: between its steps there is the log as it was, or the cleaned one, never both.
func TestThePowerFailsWithinClean(t *testing.T) {
	for _, limit := range []int{1, 60, 200} {
		var records []api.Record
		for i := range 6 { // done once more, these would make another group
			records = append(records, hard(7, i, 1), base(7, i, i, strings.Repeat("b", 40)))
		}
		records = append(records, kindsInARow()...)
		d := made(t, 1<<13)
		l := opened(t, d, limit)
		put(t, l, records...)
		l.Sync()
		for range 3 { // the log that is cleaned was not, or was cleaned once, twice
			was := twin(t, d, 1<<13)
			need(t, "Clean", l.Clean(), api.OK)
			for gone := range api.MaxFiles { // so many of the old segments are emptied
				x := mixed(t, was, d, gone)
				survived(t, opened(t, x, limit), records, len(records))
				survived(t, opened(t, x, limit), records, len(records))
			}
			for i := range 9 {
				r := hard(i%2, i, 1)
				put(t, l, r)
				records = append(records, r)
			}
			l.Sync()
		}
	}
}

// mixed is a disk whose first file is the new one's, and the others, but for so many, the old one's.
func mixed(t *testing.T, old, new *disk.Disk, gone int) *disk.Disk {
	t.Helper()
	x := made(t, 1<<14)
	n, _ := new.Size(0)
	s, _ := new.Bytes(0, 0, n)
	x.Add(0, s)
	for file := gone + 1; file < api.MaxFiles; file++ {
		n, _ := old.Size(file)
		s, _ := old.Bytes(file, 0, n)
		x.Add(file, s)
	}
	n, _ = old.Size(0)
	s, _ = old.Bytes(0, 0, n)
	need(t, "Add", x.Add(api.MaxFiles-1, s), api.OK)
	x.Sync()
	return x
}
