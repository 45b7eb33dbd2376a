package wal

import (
	"rookery/api"
	"strings"
)

// spare is a file in which no segment stands.
const spare = api.MaxFiles - 1

// closed is how many segments are closed: all but the last one, and that one, too, once it has its bytes.
func (l *Log) closed() int {
	if l.segments == 0 {
		return 0
	}
	size, _ := l.disk.Size(l.segments - 1)
	if size < l.limit {
		return l.segments - 1
	}
	return l.segments
}

// write puts a record's bytes into the segment that is not closed, or into a new one.
func (l *Log) write(s string) api.Errno {
	file := l.closed()
	if file == l.segments {
		s = putHead(l.turn) + s
	}
	if e := l.disk.Add(file, s); e != api.OK {
		return e
	}
	// Only by adding it is told whether a disk has room, and a disk without room is told first.
	if file >= mostSegments {
		l.disk.Trim(file, 0)
		return api.ErrFull
	}
	l.segments = file + 1
	if l.closed() == l.segments {
		l.disk.Sync() // now, not when the next one begins: that Append may be refused, and must leave all as it was then
	}
	return api.OK
}

// load does all whole records that the disk has, and drops what stands behind them.
func (l *Log) load() {
	for whole := true; whole && l.segments < mostSegments; {
		file := l.segments
		size, _ := l.disk.Size(file)
		s, _ := l.disk.Bytes(file, 0, size)
		good := l.replay(s)
		l.disk.Trim(file, good)
		if good > 0 {
			l.segments++
		}
		whole = good > 0 && good == size
	}
	l.drop()
}

// replay does the records of the next segment's bytes, and tells at how many bytes the last whole one ends; 0, if there is none.
func (l *Log) replay(s string) int {
	turn, at, ok := takeHead(s)
	if !ok || l.segments > 0 && turn != l.turn {
		return 0
	}
	l.turn = turn
	good := 0
	for {
		r, size, ok := takeRecord(s[at:])
		if !ok || l.check(r) != api.OK {
			return good
		}
		l.do(r)
		at += size
		good = at
	}
}

// drop empties all files behind the segments.
func (l *Log) drop() {
	for file := l.segments; file < api.MaxFiles; file++ {
		l.disk.Trim(file, 0)
	}
}

// needed is the bytes of the records that make all groups what they are.
func (l *Log) needed() string {
	var b strings.Builder
	for i := range l.groups {
		for _, r := range fewest(i, &l.groups[i]) {
			b.WriteString(putRecord(r))
		}
	}
	return b.String()
}

// replace puts one segment of these records, or none, in the place of all segments.
func (l *Log) replace(records string) api.Errno {
	turn, segments := l.turn, 0
	if records != "" {
		// The other turn: should the power fail between the swap and the end of the old segments, these are told from the new one's.
		turn, segments = 1-l.turn, 1
		records = putHead(turn) + records
	}
	if e := l.disk.Add(spare, records); e != api.OK {
		return e
	}
	if l.segments >= mostSegments {
		l.disk.Trim(spare, 0)
		return api.ErrFull
	}
	l.disk.Sync()
	l.disk.Swap(0, spare)
	l.turn, l.segments = turn, segments
	l.drop()
	return api.OK
}
