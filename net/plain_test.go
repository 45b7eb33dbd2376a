package net_test

import (
	"math/big"
	"rookery/api"
	"rookery/net"
	"slices"
	"strings"
	"testing"
)

// plain is a net by the chapter's words: a list of letters, which are counted whenever it is asked how many there are.
type plain struct {
	most int
	list []net.Letter
}

func (p *plain) count(which func(net.Letter) bool) (n int) {
	for _, l := range p.list {
		if which(l) {
			n++
		}
	}
	return n
}

func (p *plain) between(from, to int) int {
	return p.count(func(l net.Letter) bool { return l.From == from && l.To == to })
}

func (p *plain) put(l net.Letter) api.Errno {
	switch {
	case l.From < 0, l.From > 255, l.To < 0, l.To > 255:
		return api.ErrArg
	case len(l.Bytes) > 1048576:
		return api.ErrLong
	case p.between(l.From, l.To) >= p.most:
		return api.ErrFull
	}
	p.list = append(slices.Clone(p.list), l)
	return api.OK
}

// place is k modulo how many letters there are, reckoned without any wrap-round.
func (p *plain) place(k int) int {
	n := big.NewInt(int64(k))
	if k < 0 {
		n.Add(n, new(big.Int).Lsh(big.NewInt(1), 64))
	}
	return int(n.Mod(n, big.NewInt(int64(len(p.list)))).Int64())
}

func (p *plain) take(k int) (net.Letter, bool) {
	if len(p.list) == 0 {
		return net.Letter{}, false
	}
	at := p.place(k)
	l := p.list[at]
	p.list = slices.Concat(p.list[:at], p.list[at+1:])
	return l, true
}

func (p *plain) twice(k int) bool {
	if len(p.list) == 0 {
		return false
	}
	return p.put(p.list[p.place(k)]) == api.OK
}

func (p *plain) cut(to int) int {
	lost := p.count(func(l net.Letter) bool { return l.To == to })
	var left []net.Letter
	for _, l := range p.list {
		if l.To != to {
			left = append(left, l)
		}
	}
	p.list = left
	return lost
}

// both are a net and a plain one, of which the same is asked.
type both struct {
	*testing.T
	n *net.Net
	p *plain
}

// made are both nets of one size, without letters.
func made(t *testing.T, most int) both {
	t.Helper()
	n, e := net.New(most)
	if n == nil || e != api.OK {
		t.Fatalf("New(%d): %v, %d", most, n, e)
	}
	return both{t, n, &plain{most: most}}
}

// holding are both nets with letters of the names, each from 1 to 2.
func holding(t *testing.T, most int, names string) both {
	t.Helper()
	b := made(t, most)
	for _, name := range strings.Fields(names) {
		b.put(net.Letter{From: 1, To: 2, Bytes: name})
	}
	return b
}

func (b both) put(l net.Letter) api.Errno {
	b.Helper()
	got, want := b.n.Put(l), b.p.put(l)
	if got != want {
		b.Errorf("Put from %d to %d, %d bytes: %d, not %d", l.From, l.To, len(l.Bytes), got, want)
	}
	return got
}

func (b both) take(k int) (net.Letter, bool) {
	b.Helper()
	l, ok := b.n.Take(k)
	if m, want := b.p.take(k); l != m || ok != want {
		b.Errorf("Take(%d): %v, %v, not %v, %v", k, l, ok, m, want)
	}
	return l, ok
}

func (b both) twice(k int) bool {
	b.Helper()
	got, want := b.n.Twice(k), b.p.twice(k)
	if got != want {
		b.Errorf("Twice(%d): %v, not %v", k, got, want)
	}
	return got
}

func (b both) cut(to int) int {
	b.Helper()
	got, want := b.n.Cut(to), b.p.cut(to)
	if got != want {
		b.Errorf("Cut(%d): %d, not %d", to, got, want)
	}
	return got
}

// counts asks that both nets have as many letters in all, and between each two of these.
func (b both) counts(who ...int) {
	b.Helper()
	if got := b.n.Len(); got != len(b.p.list) {
		b.Errorf("Len: %d, not %d", got, len(b.p.list))
	}
	for _, from := range who {
		for _, to := range who {
			if got, want := b.n.Between(from, to), b.p.between(from, to); got != want {
				b.Errorf("Between(%d, %d): %d, not %d", from, to, got, want)
			}
		}
	}
}

// same asks that both nets have the same letters in the same order. Each letter is taken and put behind all others, so that they stand as they stood in the end.
func (b both) same() {
	b.Helper()
	var list []net.Letter
	for range b.n.Len() {
		l, ok := b.n.Take(0)
		if !ok || b.n.Put(l) != api.OK {
			b.Fatalf("%v, %v is not taken and put again", l, ok)
		}
		list = append(list, l)
	}
	if !slices.Equal(list, b.p.list) {
		b.Errorf("%v are under way, not %v", list, b.p.list)
	}
}

// names are those of the letters under way, in their order.
func (b both) names() string {
	b.Helper()
	b.same()
	var names []string
	for _, l := range b.p.list {
		names = append(names, l.Bytes)
	}
	return strings.Join(names, " ")
}

// stand asks that letters of these names are under way, in this order.
func (b both) stand(names string) {
	b.Helper()
	if got := b.names(); got != names {
		b.Errorf("%q are under way, not %q", got, names)
	}
}
