package slots_test

import (
	"encoding/binary"
	"hash/fnv"
	"math"
	"regexp"
	"rookery/api"
	"rookery/slots"
	"slices"
	"testing"
)

// Ops by their kinds.

func makes(space, channel string) api.Op {
	return api.Op{Kind: api.OpMake, Space: space, Channel: channel}
}

func joins(space, channel, user string) api.Op {
	return api.Op{Kind: api.OpJoin, Space: space, Channel: channel, User: user}
}

func posts(space, channel, user, text string) api.Op {
	return api.Op{Kind: api.OpPost, Space: space, Channel: channel, User: user, Text: text}
}

func reads(space, channel string, from, most int) api.Op {
	return api.Op{Kind: api.OpRead, Space: space, Channel: channel, From: from, Most: most}
}

func moves(space, channel, toSpace, to string) api.Op {
	return api.Op{Kind: api.OpMove, Space: space, Channel: channel, ToSpace: toSpace, To: to}
}

func closes(space string) api.Op { return api.Op{Kind: api.OpClose, Space: space} }

func offs(user string) api.Op { return api.Op{Kind: api.OpOff, User: user} }

// beyond are numbers far out.
var beyond = []int{math.MinInt, math.MinInt + 1, -1 << 32, -1 << 31, -256, -16, -2, -1, 256, 257, 1 << 32, 1<<32 + 1, 1 << 62, math.MaxInt - 1, math.MaxInt}

// draws is a row of numbers below others, the same one for each seed.
func draws(seed uint64) func(int) int {
	return func(below int) int {
		seed = seed*6364136223846793005 + 1442695040888963407
		return int((seed >> 33) % uint64(below))
	}
}

var label = regexp.MustCompile(`\A[-0-9a-z]{1,16}\z`)

// plainSlot is the slot of a text, by the hash of Go's own library.
func plainSlot(s string) int {
	h := fnv.New32a()
	h.Write([]byte(s))
	n, slot := h.Sum32(), uint32(0)
	for four := range 8 {
		slot ^= n >> (4 * four) % 16
	}
	return int(slot)
}

// plainOf is Of by the chapter's words.
func plainOf(space, channel string) (int, api.Errno) {
	if !label.MatchString(space) || !label.MatchString(channel) {
		return 0, api.ErrArg
	}
	return plainSlot(space + "/" + channel), api.OK
}

// plain is a map by the chapter's words: of each slot its group and its epoch.
type plain struct {
	groups [16]int
	epochs [16]int
}

// plainNew is a map of so many groups. That a slot belongs to the group is told by multiplying, without any rounding: the group's number less 1 is the greatest one that is not above slot times groups by 16.
func plainNew(groups int) plain {
	var p plain
	for slot := range 16 {
		group := 0
		for (group+1)*16 <= slot*groups {
			group++
		}
		p.groups[slot], p.epochs[slot] = 1+group, 1
	}
	return p
}

func (p *plain) owner(slot int) (group, epoch int, e api.Errno) {
	if slot < 0 || slot > 15 {
		return 0, 0, api.ErrArg
	}
	return p.groups[slot], p.epochs[slot], api.OK
}

func (p *plain) give(slot, group int) api.Errno {
	switch {
	case slot < 0, slot > 15, group < 1, group > 8:
		return api.ErrArg
	case p.groups[slot] == group:
		return api.ErrThere
	case p.epochs[slot] == 2147483647:
		return api.ErrArg
	}
	p.groups[slot] = group
	p.epochs[slot]++
	return api.OK
}

// ranges are all from one slot to another one of which all those between belong to one group, and which are in no greater ones.
func (p *plain) ranges() []slots.Range {
	var list []slots.Range
	for low := range 16 {
		for high := low; high < 16; high++ {
			inner := p.groups[low : high+1]
			alike := len(slices.Compact(slices.Clone(inner))) == 1
			wider := low > 0 && p.groups[low-1] == inner[0] || high < 15 && p.groups[high+1] == inner[0]
			if alike && !wider {
				list = append(list, slots.Range{Low: low, High: high, Group: inner[0]})
			}
		}
	}
	return list
}

// bytes are those that Bytes should tell, numbers as Go's own library tells them.
func (p *plain) bytes() string {
	out := []byte{'S'}
	for slot := range 16 {
		out = append(out, byte(p.groups[slot]))
		out = binary.AppendUvarint(out, uint64(p.epochs[slot]))
	}
	return string(out)
}

// both are a map and a plain one, of which the same is asked.
type both struct {
	*testing.T
	m *slots.Map
	p *plain
}

// made are both maps of so many groups.
func made(t *testing.T, groups int) both {
	t.Helper()
	m, e := slots.New(groups)
	if m == nil || e != api.OK {
		t.Fatalf("New(%d): %v, %d", groups, m, e)
	}
	p := plainNew(groups)
	return both{t, m, &p}
}

// read are a plain map and one of its bytes.
func read(t *testing.T, p plain) both {
	t.Helper()
	m, e := slots.From(p.bytes())
	if m == nil || e != api.OK {
		t.Fatalf("From(%x): %v, %d", p.bytes(), m, e)
	}
	return both{t, m, &p}
}

// give asks both, and that they are the same then.
func (b both) give(slot, group int) api.Errno {
	b.Helper()
	got, want := b.m.Give(slot, group), b.p.give(slot, group)
	if got != want {
		b.Errorf("Give(%d, %d): %d, not %d", slot, group, got, want)
	}
	b.same()
	return got
}

// tells asks that Give answers this.
func (b both) tells(slot, group int, want api.Errno) {
	b.Helper()
	if got := b.give(slot, group); got != want {
		b.Errorf("Give(%d, %d): %d, not %d", slot, group, got, want)
	}
}

// owns asks whose a slot is.
func (b both) owns(slot int) {
	b.Helper()
	group, epoch, e := b.m.Owner(slot)
	wantGroup, wantEpoch, want := b.p.owner(slot)
	if group != wantGroup || epoch != wantEpoch || e != want {
		b.Errorf("Owner(%d): %d, %d, %d, not %d, %d, %d", slot, group, epoch, e, wantGroup, wantEpoch, want)
	}
}

// same asks that both maps are the same in all that they tell.
func (b both) same() {
	b.Helper()
	for slot := -2; slot < 18; slot++ {
		b.owns(slot)
	}
	if got, want := b.m.Ranges(), b.p.ranges(); !slices.Equal(got, want) {
		b.Errorf("Ranges: %v, not %v", got, want)
	}
	if got, e := b.m.Bytes(); got != b.p.bytes() || e != api.OK {
		b.Errorf("Bytes: %x, %d, not %x", got, e, b.p.bytes())
	}
}
