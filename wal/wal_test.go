package wal_test

import (
	"fmt"
	"math"
	"rookery/api"
	"rookery/disk"
	"rookery/frame"
	"rookery/wal"
	"strings"
	"testing"
)

// made is a disk of so much room.
func made(t *testing.T, room int) *disk.Disk {
	t.Helper()
	d, e := disk.New(room)
	if e != api.OK {
		t.Fatalf("disk.New(%d): %d", room, e)
	}
	return d
}

// opened is the log of a disk, which must not be refused.
func opened(t *testing.T, d *disk.Disk, limit int) *wal.Log {
	t.Helper()
	l, e := wal.Open(d, limit)
	if l == nil || e != api.OK {
		t.Fatalf("Open with limit %d: %v, %d", limit, l, e)
	}
	return l
}

// need asks that a call is answered so.
func need(t *testing.T, what string, got, want api.Errno) {
	t.Helper()
	if got != want {
		t.Errorf("%s: %d, not %d", what, got, want)
	}
}

// put appends records, none of which may be refused.
func put(t *testing.T, l *wal.Log, records ...api.Record) {
	t.Helper()
	for _, r := range records {
		if e := l.Append(r); e != api.OK {
			t.Fatalf("Append(%s): %d", short(r), e)
		}
	}
}

// short is a record as a text that fits on a line.
func short(r api.Record) string {
	if len(r.Data) > 40 {
		r.Data = fmt.Sprintf("%s.. of %d", r.Data[:40], len(r.Data))
	}
	return fmt.Sprintf("%+v", r)
}

func hard(group, term, vote int) api.Record {
	return api.Record{Group: group, Kind: api.RecHard, Term: term, Vote: vote}
}

func entry(group, index, term int, data string) api.Record {
	return api.Record{Group: group, Kind: api.RecEntry, Index: index, Term: term, Data: data}
}

func cut(group, index int) api.Record {
	return api.Record{Group: group, Kind: api.RecCut, Index: index}
}

func base(group, index, term int, data string) api.Record {
	return api.Record{Group: group, Kind: api.RecBase, Index: index, Term: term, Data: data}
}

// tell is a group's Saved as text; nil and the empty list are told alike.
func tell(s api.Saved) string {
	var b strings.Builder
	fmt.Fprintf(&b, "term %d vote %d base %d/%d %q entries", s.Term, s.Vote, s.Base, s.BaseTerm, s.Data)
	for _, x := range s.Entries {
		fmt.Fprintf(&b, " %d:%q", x.Term, x.Data)
	}
	return b.String()
}

// state is all groups' Saved as text.
func state(t *testing.T, l *wal.Log) string {
	t.Helper()
	var b strings.Builder
	for g := range api.MaxGroups {
		s, e := l.Saved(g)
		if e != api.OK {
			t.Fatalf("Saved(%d): %d", g, e)
		}
		b.WriteString(tell(s) + "\n")
	}
	return b.String()
}

// image is all that a disk's calls tell of it.
func image(d *disk.Disk) string {
	var b strings.Builder
	for file := range api.MaxFiles {
		if n, sure := d.Size(file); n > 0 {
			s, _ := d.Bytes(file, 0, n)
			fmt.Fprintf(&b, "%d: %q %d\n", file, s, sure)
		}
	}
	return b.String()
}

// twin is a disk of so much room whose files are as another one's.
func twin(t *testing.T, d *disk.Disk, room int) *disk.Disk {
	t.Helper()
	x := made(t, room)
	for file := range api.MaxFiles {
		_, sure := d.Size(file)
		s, _ := d.Bytes(file, 0, sure)
		x.Add(file, s)
	}
	x.Sync()
	for file := range api.MaxFiles {
		n, sure := d.Size(file)
		s, _ := d.Bytes(file, sure, n-sure)
		x.Add(file, s)
	}
	if x.Used() != d.Used() {
		t.Fatalf("a twin of %d bytes has no room for %d", room, d.Used())
	}
	return x
}

// draws are numbers that look like no row; the same ones from each beginning.
func draws(n uint32) func(below int) int {
	return func(below int) int {
		n = n*1664525 + 1013904223
		return int(n>>8) % below
	}
}

func TestOpenOfNoDisk(t *testing.T) {
	for _, d := range []*disk.Disk{nil, {}} {
		for _, limit := range []int{-1, 0, 1, 60, api.MaxDisk, api.MaxDisk + 1} {
			if l, e := wal.Open(d, limit); l != nil || e != api.ErrArg {
				t.Errorf("Open(no disk, %d): %v, %d", limit, l, e)
			}
		}
	}
}

func TestOpenTakesLimitsFromOneToMaxDisk(t *testing.T) {
	for _, limit := range []int{math.MinInt, -1, 0, api.MaxDisk + 1, math.MaxInt} {
		d := made(t, 1000)
		opened(t, d, 60)
		was := image(d)
		if l, e := wal.Open(d, limit); l != nil || e != api.ErrArg {
			t.Errorf("Open(d, %d): %v, %d", limit, l, e)
		}
		if image(d) != was {
			t.Errorf("Open(d, %d) was refused, and changed the disk", limit)
		}
	}
	for _, limit := range []int{1, 2, 60, api.MaxDisk - 1, api.MaxDisk} {
		d := made(t, 1000)
		put(t, opened(t, d, limit), hard(0, 1, -1))
		if s, e := opened(t, d, limit).Saved(0); s.Term != 1 || e != api.OK {
			t.Errorf("limit %d: %s, %d", limit, tell(s), e)
		}
	}
}

// TestOpenOfSmallDisks: an empty disk of 200 bytes has room for what Open must write.
func TestOpenOfSmallDisks(t *testing.T) {
	for _, room := range []int{200, 201, 4096, api.MaxDisk} {
		for _, limit := range []int{1, 60, api.MaxDisk} {
			d := made(t, room)
			if got := state(t, opened(t, d, limit)); got != plainState(nil) {
				t.Errorf("an empty disk of %d bytes: %s", room, got)
			}
			d.Crash(nil, 0)
			opened(t, d, limit)
		}
	}
}

// framed is whole records of these payloads.
func framed(payloads ...string) string {
	s := ""
	for _, p := range payloads {
		r, _ := frame.Put(p)
		s += r
	}
	return s
}

// TestOpenOfBytesOfNoLog: whatever it tells of them, it goes on from there.
func TestOpenOfBytesOfNoLog(t *testing.T) {
	const vote = "\x00\x01\x00\x05\x01"
	for _, junk := range []string{
		"x", "R", "R\x00\x00\x00\x00\x00\x00\x00\x00", strings.Repeat("R", 300), strings.Repeat("\x00", 300),
		framed(""), framed("", vote), framed("\x00", ""), framed("\x00", "\x01\x01"), framed("\x01\x00", vote), framed("\x02", vote), framed("\xff", vote),
		framed("\xff\xff\xff\xff\xff\xff\xff\xff\x7f", vote), framed("\x00", "\x01\x01\xff\xff\xff\xff\xff\xff\xff\xff\xff"), framed("\x00", vote, vote+"x"),
		framed("\x00", "\x09\x01\x00\x00\x00"), framed("\x00", "\x00\x09\x00\x00\x00"), framed("\x00", "\x00\x03\x01\x00\x01"), framed("\x01", "\x00\x02\x02\x00\x01"),
	} {
		for _, file := range []int{0, 1, 199, 200, 255} {
			d := made(t, 1000)
			d.Add(file, junk)
			l := opened(t, d, 60)
			put(t, l, entry(3, 1, 1, "a"), entry(3, 2, 1, "b"))
			was := state(t, l)
			if s, _ := l.Saved(3); len(s.Entries) != 2 {
				t.Errorf("%q in file %d: %s", junk, file, was)
			}
			for range 3 {
				l = opened(t, d, 60)
				if got := state(t, l); got != was {
					t.Errorf("%q in file %d: %s, not %s", junk, file, got, was)
				}
				need(t, "Clean", l.Clean(), api.OK)
			}
		}
	}
}

func TestALogThatOpenDidNotGive(t *testing.T) {
	for _, l := range []*wal.Log{nil, {}} {
		need(t, "Append", l.Append(hard(0, 1, -1)), api.ErrArg)
		need(t, "Append of what may not be", l.Append(api.Record{}), api.ErrArg)
		need(t, "Sync", l.Sync(), api.ErrArg)
		need(t, "Clean", l.Clean(), api.ErrArg)
		for _, group := range []int{-1, 0, 8, 9} {
			s, e := l.Saved(group)
			need(t, "Saved", e, api.ErrArg)
			if tell(s) != tell(api.Saved{}) {
				t.Error("Saved:", tell(s))
			}
		}
		if n := l.Size(); n != 0 {
			t.Error("Size:", n)
		}
	}
}

func TestSavedOfEachGroup(t *testing.T) {
	l := opened(t, made(t, 4096), 60)
	for g := range api.MaxGroups {
		put(t, l, hard(g, g+1, g%api.MaxNodes))
	}
	for g := range api.MaxGroups {
		s, e := l.Saved(g)
		if want := tell(api.Saved{Term: g + 1, Vote: g % api.MaxNodes}); tell(s) != want || e != api.OK {
			t.Errorf("Saved(%d): %s, %d, not %s", g, tell(s), e, want)
		}
	}
	for _, g := range []int{math.MinInt, -1, api.MaxGroups, api.MaxGroups + 1, math.MaxInt} {
		s, e := l.Saved(g)
		need(t, fmt.Sprint("Saved of ", g), e, api.ErrArg)
		if tell(s) != tell(api.Saved{}) {
			t.Errorf("Saved(%d): %s", g, tell(s))
		}
	}
}

// TestSavedIsNewMemory: whoever changes an answer changes neither the log nor another answer.
func TestSavedIsNewMemory(t *testing.T) {
	l := opened(t, made(t, 4096), 600)
	records := []api.Record{entry(0, 1, 1, "a"), entry(0, 2, 1, "b"), entry(0, 3, 2, "c")}
	put(t, l, records...)
	want := tell(plains(records)[0].saved())
	x, _ := l.Saved(0)
	y, _ := l.Saved(0)
	x.Entries[0].Data = "z"
	x.Entries = append(x.Entries[:1], api.Entry{Term: 9})
	z, _ := l.Saved(0)
	if tell(y) != want || tell(z) != want {
		t.Errorf("an answer's entries are another one's, too: %s, %s", tell(y), tell(z))
	}
	put(t, l, cut(0, 2), entry(0, 2, 7, "y"))
	if tell(y) != want || tell(z) != want {
		t.Errorf("an answer was changed by a later call: %s, %s", tell(y), tell(z))
	}
}

func TestSizeIsWhatTheFilesHave(t *testing.T) {
	d := made(t, 1<<16)
	l := opened(t, d, 100)
	for i := range 50 {
		put(t, l, entry(i%3, i/3+1, 1, strings.Repeat("x", i)))
		if n := l.Size(); n != d.Used() || n < i {
			t.Fatalf("Size: %d; the disk's files have %d", n, d.Used())
		}
	}
	put(t, l, base(0, 17, 1, ""))
	need(t, "Clean", l.Clean(), api.OK)
	if n := l.Size(); n != d.Used() {
		t.Errorf("Size: %d; the disk's files have %d", n, d.Used())
	}
}

// TestTheChaptersExample: behind a crash group 0 has one entry, or two.
func TestTheChaptersExample(t *testing.T) {
	seen := map[int]int{}
	for keep := range 100 {
		d := made(t, 4096)
		l := opened(t, d, 1000)
		put(t, l, entry(0, 1, 1, "a"), entry(3, 1, 1, "b"))
		need(t, "Sync", l.Sync(), api.OK)
		put(t, l, entry(0, 2, 1, "c"))
		d.Crash([]int{keep, keep, keep}, 0)
		l = opened(t, d, 1000)
		s, _ := l.Saved(0)
		seen[len(s.Entries)]++
		if s, _ := l.Saved(3); len(s.Entries) != 1 {
			t.Error(tell(s))
		}
	}
	if len(seen) != 2 || seen[1] == 0 || seen[2] == 0 {
		t.Error("how many entries, how often:", seen)
	}
}
