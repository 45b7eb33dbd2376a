package meta

import (
	"maps"
	"rookery/api"
	"rookery/bits"
	"rookery/command"
	"rookery/session"
	"rookery/slots"
	"slices"
	"strings"
)

// mark is what a machine's bytes begin with.
const mark = "t"

// Bytes is a machine as bytes.
func (m *Machine) Bytes() (string, api.Errno) {
	if !m.isMade() {
		return "", api.ErrArg
	}
	owners, _ := m.owners.Bytes()
	w := &writer{}
	w.out.WriteString(mark)
	w.put(m.groups, owners, m.plan, m.answered, m.table, m.waiting)
	return w.out.String(), api.OK
}

// From is the machine of bytes. They are read leniently, and a machine is given again what they tell: what it refuses, and what stands otherwise than it would be written, is not in its own bytes then.
func From(s string) (*Machine, api.Errno) {
	rest, _ := strings.CutPrefix(s, mark)
	m := (&reader{rest: rest}).machine()
	if told, e := m.Bytes(); e != api.OK || told != s {
		return nil, api.ErrCommand
	}
	return m, api.OK
}

// writer puts one part behind the other.
type writer struct {
	out strings.Builder
}

// put puts parts of whatever type.
func (w *writer) put(parts ...any) {
	for _, part := range parts {
		switch p := part.(type) {
		case int:
			s, _ := bits.PutVar(p) // a machine has no number below 0
			w.out.WriteString(s)
		case bool:
			w.truth(p)
		case string:
			w.put(len(p))
			w.out.WriteString(p)
		case api.Errno: // any number, as a vote may be any one: of it and its complement one is not below 0
			w.put(p < 0, int(max(p, ^p)))
		case Plan:
			w.put(p.Slot, p.To, p.Frozen, p.Data)
		case *session.Table:
			w.table(p)
		case []transaction:
			w.waiting(p)
		}
	}
}

// truth puts a number that is 0 or 1.
func (w *writer) truth(t bool) {
	if t {
		w.put(1)
	} else {
		w.put(0)
	}
}

// table puts what each session asked last, and its error: a transaction's reply has nothing else.
func (w *writer) table(t *session.Table) {
	ids := t.Ids()
	w.put(len(ids))
	for _, id := range ids {
		r, _ := t.Find(id)
		w.put(id.Session, id.Seq, r.Err)
	}
}

// waiting puts all that wait, and how far the first one came.
func (w *writer) waiting(list []transaction) {
	w.put(len(list))
	for _, t := range list {
		asked, _ := command.PutAsk(t.id, t.op) // it may be
		w.put(asked)
	}
	if len(list) > 0 {
		w.progress(list[0])
	}
}

// progress puts votes and ends.
func (w *writer) progress(t transaction) {
	w.put(t.data, len(t.votes))
	for _, slot := range slices.Sorted(maps.Keys(t.votes)) {
		w.put(slot, t.votes[slot])
	}
	w.put(len(t.ended))
	for _, slot := range slices.Sorted(maps.Keys(t.ended)) {
		w.put(slot)
	}
}

// reader takes one part behind the other. Where there is none all that it takes is nothing.
type reader struct {
	rest string
}

// machine takes one; nil, if it would not go on as a machine does.
func (r *reader) machine() *Machine {
	m, e := New(r.number())
	if e != api.OK {
		return nil
	}
	m.owners, e = slots.From(r.text())
	if e != api.OK || slices.ContainsFunc(m.owners.Ranges(), func(o slots.Range) bool { return o.Group > m.groups }) {
		return nil
	}
	r.plan(m)
	m.answered = r.number()
	r.table(m)
	if !m.isCounted() {
		return nil
	}
	r.waiting(m)
	return m
}

// isCounted is whether so many transactions may be answered: one at least of each session of the table, and no more than it has numbers.
func (m *Machine) isCounted() bool {
	ids, most := m.table.Ids(), 0
	for _, id := range ids {
		most += id.Seq
	}
	return m.answered >= len(ids) && m.answered <= most
}

// plan takes one, which is to no group, if there is none: so it is refused.
func (r *reader) plan(m *Machine) {
	m.start(api.Command{Slot: r.number(), Group: r.number()})
	frozen, data := r.number(), r.text()
	if frozen == 1 {
		m.freeze(api.Command{Plan: m.plan.Plan, Data: data})
	}
}

func (r *reader) table(m *Machine) {
	r.each(func() {
		m.table.Put(api.Id{Session: r.number(), Seq: r.number()}, answer(r.errno()))
	})
}

// waiting takes all that wait, and how far the first one came: its Data, with each vote, as the votes don't tell with which of them they came.
func (r *reader) waiting(m *Machine) {
	r.each(func() {
		id, op, _ := command.FromAsk(r.text()) // what is none has an op that may not be
		m.begin(api.Command{Id: id, Op: op})
	})
	data := r.text() // if none waits there is nothing of all this
	r.each(func() {
		m.vote(api.Command{Tx: m.first(), Slot: r.number(), Err: r.errno(), Data: data})
	})
	r.each(func() {
		m.end(api.Command{Tx: m.first(), Slot: r.number()})
	})
}

// each takes so many as are told ahead of them, but no more than there may be: each of them has a byte.
func (r *reader) each(take func()) {
	for n := r.number(); n > 0 && r.rest != ""; n-- {
		take()
	}
}

// number takes one.
func (r *reader) number() int {
	n, size, e := bits.Var(r.rest)
	if e != api.OK {
		size = len(r.rest) // so that nothing more is taken
	}
	r.rest = r.rest[size:]
	return n
}

// errno takes one, of any number.
func (r *reader) errno() api.Errno {
	below, n := r.number(), r.number()
	if below == 1 {
		return api.Errno(^n)
	}
	return api.Errno(n)
}

// text takes one. It shares its bytes with all that is read.
func (r *reader) text() string {
	size := r.number()
	size = min(size, len(r.rest))
	t := r.rest[:size]
	r.rest = r.rest[size:]
	return t
}
