package shard

import (
	"rookery/api"
	"rookery/bits"
	"strings"
)

// What bytes begin with: by it none are taken for others.
const (
	markMachine = "m"
	markContent = "s"
	markChannel = "c"
)

const (
	sumBytes  = 4
	sumFactor = 16777619 // odd: so another byte, whatever stands behind it, makes another sum
)

// sealed are bytes with a mark ahead of them, and a sum behind: by it bytes that were turned, lost or added are told, which may well be read as other things.
func sealed(mark string, w *writer) string {
	s := mark + w.out.String()
	sum, _ := bits.PutFixed(sumOf(s), sumBytes) // it has 32 bits, so it can't be refused
	return s + sum
}

// opened is a reader of what stands between mark and sum.
func opened(mark, s string) *reader {
	inner, isMarked := strings.CutPrefix(s, mark)
	end := len(inner) - sumBytes
	if !isMarked || end < 0 {
		return &reader{failed: true}
	}
	sum, _ := bits.Fixed(inner[end:], sumBytes) // it has its bytes, so it can't be refused
	return &reader{rest: inner[:end], failed: sum != sumOf(s[:len(s)-sumBytes])}
}

// sumOf is a sum of bytes, each of which counts by its place.
func sumOf(s string) int {
	var sum uint32
	for i := range len(s) {
		sum = (sum + uint32(s[i]) + 1) * sumFactor
	}
	return int(sum)
}

// writer puts one thing behind the other.
type writer struct {
	out strings.Builder
}

// number puts one that is 0 or more.
func (w *writer) number(n int) {
	s, _ := bits.PutVar(n)
	w.out.WriteString(s)
}

// text puts one of any bytes.
func (w *writer) text(t string) {
	w.number(len(t))
	w.out.WriteString(t)
}

// reader takes one thing behind the other. Once it failed, all that it takes is nothing.
type reader struct {
	rest   string
	failed bool
}

// number takes one.
func (r *reader) number() int {
	n, size, e := bits.Var(r.rest)
	if r.failed || e != api.OK {
		r.failed = true
		return 0
	}
	r.rest = r.rest[size:]
	return n
}

// text takes one. It shares its bytes with all that is read.
func (r *reader) text() string {
	size := r.number()
	if r.failed || size > len(r.rest) {
		r.failed = true
		return ""
	}
	t := r.rest[:size]
	r.rest = r.rest[size:]
	return t
}

// each takes so many things as are told ahead of them. So what is told to have more than there is costs no more than what there is.
func (r *reader) each(take func()) {
	for n := r.number(); n > 0 && !r.failed; n-- {
		take()
	}
}

// must lets the reader fail, unless what it took may be.
func (r *reader) must(ok bool) {
	if !ok {
		r.failed = true
	}
}

// isDone is whether all was taken, and nothing else was there.
func (r *reader) isDone() bool { return !r.failed && r.rest == "" }
