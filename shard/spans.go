package shard

import (
	"slices"
	"sort"
)

// span is numbers one behind the other.
type span struct {
	low  int
	high int
}

// spans are numbers, as few spans as may be, rising. So many transactions that ended take little room, as most are neighbours.
type spans []span

// at is the place of the first span that ends at a number or above it.
func (s spans) at(n int) int {
	return sort.Search(len(s), func(i int) bool { return s[i].high >= n })
}

// has is whether a number is one of these.
func (s spans) has(n int) bool {
	i := s.at(n)
	return i < len(s) && s[i].low <= n
}

// with are these and a number that is none of them. It is made of what they were made of, so they are not to be used any more.
func (s spans) with(n int) spans {
	i := s.at(n)
	ahead := i > 0 && s[i-1].high == n-1
	behind := i < len(s) && s[i].low == n+1
	switch {
	case ahead && behind:
		s[i-1].high = s[i].high
		return slices.Delete(s, i, i+1)
	case ahead:
		s[i-1].high = n
		return s
	case behind:
		s[i].low = n
		return s
	}
	return slices.Insert(s, i, span{n, n})
}
