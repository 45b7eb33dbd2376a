package wal_test

import (
	"rookery/api"
	"rookery/disk"
	"rookery/wal"
	"strings"
	"testing"
)

// survived asks Wa3 of a log behind a crash: it has the first ones of these records, and at least so many of them; how many.
func survived(t *testing.T, l *wal.Log, records []api.Record, sure int) int {
	t.Helper()
	got := state(t, l)
	for n := len(records); n >= sure; n-- {
		if got == plainState(records[:n]) {
			return n
		}
	}
	t.Fatalf("behind a crash it is no beginning, of %d records or more, of %d: %s", sure, len(records), got)
	return 0
}

// loose is how many bytes of one file are loose at the most.
func loose(d *disk.Disk) int {
	n := 0
	for file := range api.MaxFiles {
		all, sure := d.Size(file)
		n = max(n, all-sure)
	}
	return n
}

// alike is one number for each file that could have loose bytes.
func alike(keep int) []int {
	l := make([]int, api.MaxFiles)
	for i := range l {
		l[i] = keep
	}
	return l
}

// A script's calls beside Append of its next record.
const (
	syncs  = 's'
	cleans = 'c'
)

// scripts are what is called: a blank for Append of the next record.
func scripts() []string {
	return []string{
		"              ",
		"s s s s s s s s ",
		"   s    c   s   ",
		"    c  s  c     c ",
		"c s cc  s",
	}
}

// kindsInARow are records of all kinds and of three groups, each of which fits behind those ahead of it.
func kindsInARow() []api.Record {
	return []api.Record{
		entry(0, 1, 1, "one"), hard(3, 2, 1), entry(0, 2, 1, ""), entry(3, 1, 2, "first"), entry(0, 3, 2, "three"),
		cut(0, 3), base(3, 1, 2, "base"), entry(0, 3, 3, "other"), base(8, 7, 7, "seven"), base(0, 2, 1, "two"),
		hard(0, 3, -1), entry(8, 8, 7, strings.Repeat("8", 90)), cut(8, 8), entry(3, 2, 2, "\xff"), base(0, 9, 9, ""),
	}
}

// run does a script on a log, and hands what was appended, and how much of it must survive, to look behind each call.
func run(t *testing.T, l *wal.Log, script string, look func(records []api.Record, sure int)) {
	t.Helper()
	next, sure := 0, 0
	all := kindsInARow()
	for _, call := range script {
		switch call {
		case syncs:
			need(t, "Sync", l.Sync(), api.OK)
			sure = next
		case cleans:
			need(t, "Clean", l.Clean(), api.OK)
			sure = next
		default:
			put(t, l, all[next])
			next++
		}
		look(all[:next], sure)
	}
}

// TestACrashBehindEachCall: with each survivor, turned or not, and another crash behind it.
func TestACrashBehindEachCall(t *testing.T) {
	for _, script := range scripts() {
		for _, limit := range []int{1, 60, 200, api.MaxDisk} {
			d := made(t, 1<<13)
			l := opened(t, d, limit)
			run(t, l, script, func(records []api.Record, sure int) {
				for keep := range loose(d) + 1 {
					for _, turn := range []int{0, 1, 128} {
						crashAndGoOn(t, twin(t, d, 1<<13), limit, alike(keep), turn, records, sure)
					}
				}
			})
		}
	}
}

// crashAndGoOn asks that a log is recovered, that all that is there then survives the next crash, and that it goes on.
func crashAndGoOn(t *testing.T, d *disk.Disk, limit int, keep []int, turn int, records []api.Record, sure int) {
	t.Helper()
	d.Crash(keep, turn)
	n := survived(t, opened(t, d, limit), records, sure)
	d.Crash(alike(1), 1)
	l := opened(t, d, limit)
	if m := survived(t, l, records[:n], n); m != n {
		t.Fatalf("%d records, %d behind the next crash", n, m)
	}
	more := append(records[:n:n], hard(5, 4, 3), entry(5, 1, 1, "more"))
	put(t, l, more[n:]...)
	l.Sync()
	d.Crash(nil, 0)
	survived(t, opened(t, d, limit), more, n+2)
}

// TestEachTurnOfEachByte: of a record that is torn at whatever byte nothing is told, whatever that byte becomes.
func TestEachTurnOfEachByte(t *testing.T) {
	records := []api.Record{hard(2, 1, 1), entry(2, 1, 1, "abc")}
	d := made(t, 1<<10)
	l := opened(t, d, 500)
	put(t, l, records[0])
	l.Sync()
	put(t, l, records[1])
	for keep := range loose(d) + 1 {
		for turn := range 256 {
			x := twin(t, d, 1<<10)
			x.Crash(alike(keep), turn)
			n := survived(t, opened(t, x, 500), records, 1)
			if whole := keep == loose(d) && turn == 0; whole != (n == 2) {
				t.Errorf("%d bytes kept, turned by %d: %d records", keep, turn, n)
			}
		}
	}
}

// TestACrashWithUnlikeSurvivors: each file keeps another number of its bytes.
func TestACrashWithUnlikeSurvivors(t *testing.T) {
	for seed := range uint32(150) {
		draw := draws(seed)
		script := scripts()[draw(len(scripts()))]
		limit := 1 + draw(150)
		d := made(t, 1<<13)
		run(t, opened(t, d, limit), script, func(records []api.Record, sure int) {
			keep := []int{draw(200) - 9, draw(90), draw(90), draw(90)}
			crashAndGoOn(t, twin(t, d, 1<<13), 1+draw(150), keep, draw(512)-256, records, sure)
		})
	}
}

// TestATornSegmentEndsTheLog: what stands behind it would be no beginning.
func TestATornSegmentEndsTheLog(t *testing.T) {
	d := made(t, 1<<13)
	records := append(kindsInARow(), hard(0, 1, 1), hard(0, 2, 2), hard(0, 3, 3))
	put(t, opened(t, d, 60), records...)
	for file := range api.MaxFiles {
		size, _ := d.Size(file)
		if size == 0 {
			break
		}
		x := twin(t, d, 1<<13)
		x.Trim(file, size-1)
		l := opened(t, x, 60)
		n := survived(t, l, records[:len(records)-1], 0)
		put(t, l, hard(5, 5, 5))
		survived(t, opened(t, x, 60), append(records[:n:n], hard(5, 5, 5)), n+1)
	}
}

// TestALastRecordIsTold: of what is loose all may survive, and then it is there.
func TestALastRecordIsTold(t *testing.T) {
	d := made(t, 1<<13)
	l := opened(t, d, api.MaxDisk)
	all := kindsInARow()
	for n, r := range all {
		put(t, l, r)
		x := twin(t, d, 1<<13)
		x.Crash(alike(loose(x)), 0)
		if m := survived(t, opened(t, x, api.MaxDisk), all[:n+1], 0); plainState(all[:m]) != plainState(all[:n+1]) {
			t.Errorf("all %d records survived, %d are told", n+1, m)
		}
		x = twin(t, d, 1<<13)
		x.Crash(alike(loose(x)), 1)
		if m := survived(t, opened(t, x, api.MaxDisk), all[:n+1], 0); m != n {
			t.Errorf("the last one of %d records is turned, %d are told", n+1, m)
		}
	}
}

// TestOpenWithoutACrash: a log that is opened anew has all records, and they survive then.
func TestOpenWithoutACrash(t *testing.T) {
	for _, script := range scripts() {
		for _, limit := range []int{1, 60, 200, api.MaxDisk} {
			d := made(t, 1<<13)
			run(t, opened(t, d, limit), script, func(records []api.Record, _ int) {
				for _, other := range []int{1, limit, api.MaxDisk} {
					x := twin(t, d, 1<<13)
					survived(t, opened(t, x, other), records, len(records))
					x.Crash(alike(1), 1)
					survived(t, opened(t, x, limit), records, len(records))
				}
			})
		}
	}
}

// TestAgainAndAgain: appended, synced, cleaned, crashed, opened with whatever limit, on one disk that is full at times.
func TestAgainAndAgain(t *testing.T) {
	told := map[api.Errno]int{}
	for seed := range uint32(60) {
		draw := draws(seed)
		room := 300 + draw(3000)
		d := made(t, room)
		l := opened(t, d, 1+draw(200))
		var records []api.Record
		sure := 0
		for range 300 {
			switch k := draw(20); {
			case k == 0:
				need(t, "Sync", l.Sync(), api.OK)
				sure = len(records)
			case k == 1:
				e := l.Clean()
				if told[e]++; e == api.OK {
					sure = len(records)
				} else {
					need(t, "Clean", e, api.ErrDisk)
				}
			case k == 2:
				d.Crash([]int{draw(300) - 20, draw(50), draw(50)}, draw(256))
				l = opened(t, d, 1+draw(200))
				records = records[:survived(t, l, records, sure)]
				sure = len(records)
			default:
				r := drawn(records, draw)
				e := l.Append(r)
				if told[e]++; e == api.OK {
					records = append(records, r)
				} else if e != api.ErrDisk {
					t.Fatalf("Append(%s): %d", short(r), e)
				}
			}
			if got, want := state(t, l), plainState(records); got != want {
				t.Fatalf("seed %d: %s, not %s", seed, got, want)
			}
		}
	}
	if told[api.OK] == 0 || told[api.ErrDisk] == 0 {
		t.Error("how often was answered what:", told)
	}
}
