package slots

import (
	"rookery/api"
	"rookery/bits"
	"strings"
)

// mark is what a map's bytes begin with.
const mark = "S"

// Bytes is a map as bytes.
func (m *Map) Bytes() (string, api.Errno) {
	if !m.isMade() {
		return "", api.ErrArg
	}
	var out strings.Builder
	out.WriteString(mark)
	for _, o := range m.owners {
		epoch, _ := bits.PutVar(o.epoch) // it is above 0, so it can't be refused
		out.WriteByte(byte(o.group))
		out.WriteString(epoch)
	}
	return out.String(), api.OK
}

// From is the map of bytes.
func From(s string) (*Map, api.Errno) {
	rest, ok := strings.CutPrefix(s, mark)
	if !ok {
		return nil, api.ErrCommand
	}
	m := &Map{}
	for slot := range m.owners {
		o, size, ok := firstOwner(rest)
		if !ok {
			return nil, api.ErrCommand
		}
		m.owners[slot], rest = o, rest[size:]
	}
	if rest != "" {
		return nil, api.ErrCommand
	}
	return m, api.OK
}

// firstOwner is the owner that bytes begin with, and how many bytes. An epoch in more bytes than it takes is refused by Var.
func firstOwner(s string) (o owner, size int, ok bool) {
	if s == "" {
		return owner{}, 0, false
	}
	group := int(s[0])
	epoch, size, e := bits.Var(s[1:])
	if e != api.OK || !isGroup(group) || epoch < 1 || epoch > maxEpoch {
		return owner{}, 0, false
	}
	return owner{group, epoch}, 1 + size, true
}
