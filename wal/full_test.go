package wal_test

import (
	"rookery/api"
	"rookery/disk"
	"rookery/wal"
	"testing"
)

// kept asks that a call is answered so, and that, where it is refused, neither the log nor its disk is another one.
func kept(t *testing.T, d *disk.Disk, l *wal.Log, call func() api.Errno) api.Errno {
	t.Helper()
	was, files, size := state(t, l), image(d), l.Size()
	e := call()
	if e != api.OK && (state(t, l) != was || image(d) != files || l.Size() != size) {
		t.Fatalf("refused with %d, and changed the log", e)
	}
	return e
}

// TestADiskThatBecomesFull: at each place; what is refused leaves the log as it was, and what was synced survives.
func TestADiskThatBecomesFull(t *testing.T) {
	for _, limit := range []int{1, 60, api.MaxDisk} {
		fit := 0
		for room := 200; room < 900; room++ {
			d := made(t, room)
			l := opened(t, d, limit)
			var taken []api.Record
			for _, r := range kindsInARow() {
				used := d.Used()
				switch e := kept(t, d, l, func() api.Errno { return l.Append(r) }); {
				case e == api.OK:
					taken = append(taken, r)
				case e == api.ErrDisk && used+len(r.Data)+64 <= room:
					t.Errorf("room %d, %d used, %s: ErrDisk", room, used, short(r))
				case e != api.ErrDisk && e != api.ErrOrder: // the one ahead of it may have been refused
					t.Fatalf("room %d, %s: %d", room, short(r), e)
				}
				if got := state(t, l); got != plainState(taken) {
					t.Fatalf("room %d, %s: %s", room, short(r), got)
				}
			}
			fit = len(taken)
			l.Sync()
			d.Crash(alike(3), 1)
			survived(t, opened(t, d, limit), taken, len(taken))
		}
		if fit != len(kindsInARow()) {
			t.Errorf("limit %d: the greatest disk took %d records", limit, fit)
		}
	}
}

// TestAFullDiskOpens: one on which a log was opened has room for it, full or not, behind each crash.
func TestAFullDiskOpens(t *testing.T) {
	for room := 200; room < 260; room++ {
		for _, limit := range []int{80, api.MaxDisk} {
			d := made(t, room)
			taken := fill(t, d, limit, room)
			for keep := range loose(d) + 1 {
				x := twin(t, d, room)
				x.Crash(alike(keep), keep)
				survived(t, opened(t, x, limit), taken, 2)
			}
			opened(t, d, limit).Sync()
			d.Crash(alike(1), 1)
			survived(t, opened(t, d, limit), taken, len(taken))
		}
	}
}

// fill lets a new log on a disk take entries, the first two of which are synced, till no byte is left.
func fill(t *testing.T, d *disk.Disk, limit, room int) []api.Record {
	t.Helper()
	l := opened(t, d, limit)
	taken := []api.Record{entry(1, 1, 1, "some"), entry(1, 2, 1, "some")}
	put(t, l, taken...)
	l.Sync()
	for n := room - l.Size(); n >= 0; n-- {
		r := entry(1, 3, 1, most[:n])
		if l.Append(r) == api.OK {
			taken = append(taken, r)
			break
		}
	}
	if l.Size() != room {
		t.Fatalf("%d bytes of %d are taken", l.Size(), room)
	}
	return taken
}

// closed200 is a log whose 200 segments are all closed, and its disk.
func closed200(t *testing.T) (*disk.Disk, *wal.Log, []api.Record) {
	t.Helper()
	d := made(t, 1<<16)
	l := opened(t, d, 1)
	var taken []api.Record
	for i := range 200 {
		taken = append(taken, entry(i%4, i/4+1, 1, "data"))
	}
	put(t, l, taken...)
	return d, l, taken
}

// TestManySegments: with a limit of one byte each record closes a segment; 200 of them are taken, and no more.
func TestManySegments(t *testing.T) {
	d, l, taken := closed200(t)
	refused := []api.Record{entry(0, 51, 1, ""), hard(0, 1, -1), cut(1, 2), base(2, 50, 1, ""), entry(0, 51, 1, most[:1<<12])}
	ask := func() {
		t.Helper()
		for _, r := range refused {
			need(t, short(r), kept(t, d, l, func() api.Errno { return l.Append(r) }), api.ErrFull)
		}
		need(t, "Clean", kept(t, d, l, l.Clean), api.ErrFull)
		need(t, "what does not fit", l.Append(entry(0, 50, 1, "")), api.ErrOrder)
		need(t, "what may not be", l.Append(api.Record{}), api.ErrArg)
		survived(t, l, taken, len(taken))
	}
	ask()
	l.Sync()
	ask()
	d.Crash(alike(1), 1)
	l = opened(t, d, 1)
	ask()
	// A greater limit: the last segment is not closed any more, and takes records again.
	l = opened(t, d, 500)
	put(t, l, entry(0, 51, 1, "more"))
	taken = append(taken, entry(0, 51, 1, "more"))
	l = opened(t, d, 1)
	refused = refused[1:4]
	ask()
}

// TestNoRoomAheadOfFull: of a full disk with 200 closed segments ErrDisk is told.
func TestNoRoomAheadOfFull(t *testing.T) {
	full, _, taken := closed200(t)
	d := twin(t, full, full.Used())
	l := opened(t, d, 1)
	need(t, "Append", kept(t, d, l, func() api.Errno { return l.Append(hard(0, 1, -1)) }), api.ErrDisk)
	need(t, "Clean", kept(t, d, l, l.Clean), api.ErrDisk)
	d = twin(t, full, full.Used()+1000)
	l = opened(t, d, 1)
	need(t, "Append of much", kept(t, d, l, func() api.Errno { return l.Append(entry(0, 51, 1, most[:1000])) }), api.ErrDisk)
	need(t, "Append of little", kept(t, d, l, func() api.Errno { return l.Append(hard(0, 1, -1)) }), api.ErrFull)
	need(t, "Clean", kept(t, d, l, l.Clean), api.ErrDisk)
	survived(t, l, taken, len(taken))
}

// TestASegmentIsClosedAtItsLimit: once it has so many bytes, not one byte ahead of that.
func TestASegmentIsClosedAtItsLimit(t *testing.T) {
	d := made(t, 1<<16)
	put(t, opened(t, d, api.MaxDisk), hard(0, 1, 1))
	for _, c := range [][2]int{{d.Used() - 1, 200}, {d.Used(), 200}, {d.Used() + 1, 400}} {
		l := opened(t, made(t, 1<<16), c[0])
		for range c[1] {
			put(t, l, hard(0, 1, 1))
		}
		need(t, "Append", l.Append(hard(0, 1, 1)), api.ErrFull)
	}
}

// TestTornSegmentsAreNotClosed: a segment of which no record survived does not count.
func TestTornSegmentsAreNotClosed(t *testing.T) {
	d := made(t, 1<<16)
	for i := range 150 {
		put(t, opened(t, d, 5), base(0, i, 1, most[:100]))
		put(t, opened(t, d, 100), entry(0, i+1, 1, "data"))
		d.Crash(alike(loose(d)-1), 0)
		if s, _ := opened(t, d, 5).Saved(0); s.Base != i || len(s.Entries) != 0 {
			t.Fatal(tell(s))
		}
	}
}
