package wal

import (
	"rookery/api"
	"rookery/bits"
	"rookery/frame"
)

// putHead is what a segment of that turn begins with.
func putHead(turn int) string { return framed(number(turn)) }

// takeHead is the turn of the segment that bytes begin with, and how many bytes tell it.
func takeHead(s string) (turn, size int, ok bool) {
	t, size, e := frame.Take(s)
	if e != api.OK {
		return 0, 0, false
	}
	turn, n, e := bits.Var(t)
	if e != api.OK || n != len(t) || turn > 1 {
		return 0, 0, false
	}
	return turn, size, true
}

// putRecord is a record, that may be, as bytes.
func putRecord(r api.Record) string {
	s := ""
	for _, n := range [...]int{r.Group, r.Kind, r.Index, r.Term, r.Vote + 1} { // a vote of -1 is none of a number's
		s += number(n)
	}
	return framed(s + r.Data)
}

// takeRecord is the record that bytes begin with, and how many bytes it has; whether it may be is not asked.
func takeRecord(s string) (r api.Record, size int, ok bool) {
	t, size, e := frame.Take(s)
	if e != api.OK {
		return api.Record{}, 0, false
	}
	var n [5]int
	for i := range n {
		v, bytes, e := bits.Var(t)
		if e != api.OK {
			return api.Record{}, 0, false
		}
		n[i], t = v, t[bytes:]
	}
	return api.Record{Group: n[0], Kind: n[1], Index: n[2], Term: n[3], Vote: n[4] - 1, Data: t}, size, true
}

// number is the bytes of a number from 0 on.
func number(n int) string {
	s, _ := bits.PutVar(n) // only one below 0 is refused
	return s
}

// framed is a payload with its frame.
func framed(payload string) string {
	s, _ := frame.Put(payload) // a record's data has half of what may be framed at most, so it is not refused
	return s
}
