package command_test

import (
	"encoding/binary"
	"fmt"
	"reflect"
	"rookery/api"
	"rookery/command"
	"slices"
	"strings"
	"testing"
)

const (
	most     = 1099511627776 // the greatest number
	mostText = 262144        // the bytes of the longest text
)

// draws is a row of numbers below others, the same one for each seed.
func draws(seed uint64) func(int) int {
	return func(below int) int {
		seed = seed*6364136223846793005 + 1442695040888963407
		return int((seed >> 33) % uint64(below))
	}
}

// What a part of bytes is.
const (
	isMark = iota
	isNumber
	isTruth
	isCount
	isText
)

// part are the bytes of one field, by the chapter's words: which field, and what it is. Whether it may be is not asked.
type part struct {
	name  string
	what  int
	bytes string
}

// number is a number's bytes, as Go's own library tells it.
func number(n int) string { return string(binary.AppendUvarint(nil, uint64(n))) }

func text(s string) string { return number(len(s)) + s }

func numberPart(name string, n int) part  { return part{name, isNumber, number(n)} }
func countPart(name string, n int) part   { return part{name, isCount, number(n)} }
func textPart(name string, s string) part { return part{name, isText, text(s)} }

func truthPart(name string, b bool) part {
	if b {
		return part{name, isTruth, "\x01"}
	}
	return part{name, isTruth, "\x00"}
}

func joined(parts []part) string {
	var out strings.Builder
	for _, p := range parts {
		out.WriteString(p.bytes)
	}
	return out.String()
}

func idParts(id api.Id) []part {
	return []part{numberPart("Session", id.Session), numberPart("Seq", id.Seq)}
}

func opParts(o api.Op) []part {
	return []part{
		numberPart("Op.Kind", o.Kind),
		textPart("Op.Space", o.Space),
		textPart("Op.Channel", o.Channel),
		textPart("Op.User", o.User),
		textPart("Op.Text", o.Text),
		textPart("Op.ToSpace", o.ToSpace),
		textPart("Op.To", o.To),
		numberPart("Op.From", o.From),
		numberPart("Op.Most", o.Most),
	}
}

func commandParts(c api.Command) []part {
	list := []part{{"C", isMark, "C"}, numberPart("Kind", c.Kind)}
	list = append(list, idParts(c.Id)...)
	list = append(list,
		numberPart("Tx", c.Tx),
		numberPart("Plan", c.Plan),
		numberPart("Slot", c.Slot),
		numberPart("Epoch", c.Epoch),
		numberPart("Group", c.Group),
		truthPart("Ok", c.Ok),
		numberPart("Err", int(c.Err)),
	)
	list = append(list, opParts(c.Op)...)
	return append(list, textPart("Data", c.Data))
}

func messageParts(m api.Message) []part {
	list := []part{
		{"M", isMark, "M"},
		numberPart("Kind", m.Kind),
		numberPart("Group", m.Group),
		numberPart("From", m.From),
		numberPart("To", m.To),
		numberPart("Term", m.Term),
		numberPart("Index", m.Index),
		numberPart("At", m.At),
		numberPart("Commit", m.Commit),
		truthPart("Ok", m.Ok),
		countPart("Entries", len(m.Entries)),
	}
	for i, e := range m.Entries {
		list = append(list, numberPart(fmt.Sprintf("Entries[%d].Term", i), e.Term))
		list = append(list, textPart(fmt.Sprintf("Entries[%d].Data", i), e.Data))
	}
	return append(list, textPart("Data", m.Data))
}

func askParts(id api.Id, o api.Op) []part {
	return slices.Concat([]part{{"Q", isMark, "Q"}}, idParts(id), opParts(o))
}

func answerParts(id api.Id, r api.Reply) []part {
	list := append([]part{{"A", isMark, "A"}}, idParts(id)...)
	list = append(list, numberPart("Err", int(r.Err)), numberPart("At", r.At), countPart("Posts", len(r.Posts)))
	for i, p := range r.Posts {
		list = append(list, textPart(fmt.Sprintf("Posts[%d].User", i), p.User))
		list = append(list, textPart(fmt.Sprintf("Posts[%d].Text", i), p.Text))
	}
	return list
}

// thing is something of one of the four kinds: all its fields may be set one by one.
type thing interface {
	numbers() map[string]func(int)
	texts() map[string]func(string)
	truths() map[string]func(bool)
	list(count int) bool // sets how many items its list has, if it has one
	parts() []part
	put() (string, api.Errno)
	from(s string) (thing, api.Errno)
	copy() thing
}

// set is a field that is set to a number.
func set[N ~int](n *N) func(int) { return func(to int) { *n = N(to) } }

// setTo is a field that is set to a text or a truth.
func setTo[T any](x *T) func(T) { return func(to T) { *x = to } }

func idNumbers(id *api.Id, into map[string]func(int)) map[string]func(int) {
	into["Session"], into["Seq"] = set(&id.Session), set(&id.Seq)
	return into
}

func opNumbers(o *api.Op, into map[string]func(int)) map[string]func(int) {
	into["Op.Kind"], into["Op.From"], into["Op.Most"] = set(&o.Kind), set(&o.From), set(&o.Most)
	return into
}

func opTexts(o *api.Op) map[string]func(string) {
	return map[string]func(string){
		"Op.Space":   setTo(&o.Space),
		"Op.Channel": setTo(&o.Channel),
		"Op.User":    setTo(&o.User),
		"Op.Text":    setTo(&o.Text),
		"Op.ToSpace": setTo(&o.ToSpace),
		"Op.To":      setTo(&o.To),
	}
}

type commandThing struct{ c api.Command }

func (x *commandThing) numbers() map[string]func(int) {
	return opNumbers(&x.c.Op, idNumbers(&x.c.Id, map[string]func(int){
		"Kind":  set(&x.c.Kind),
		"Tx":    set(&x.c.Tx),
		"Plan":  set(&x.c.Plan),
		"Slot":  set(&x.c.Slot),
		"Epoch": set(&x.c.Epoch),
		"Group": set(&x.c.Group),
		"Err":   set(&x.c.Err),
	}))
}

func (x *commandThing) texts() map[string]func(string) {
	list := opTexts(&x.c.Op)
	list["Data"] = setTo(&x.c.Data)
	return list
}

func (x *commandThing) truths() map[string]func(bool) {
	return map[string]func(bool){"Ok": setTo(&x.c.Ok)}
}

func (x *commandThing) list(int) bool            { return false }
func (x *commandThing) parts() []part            { return commandParts(x.c) }
func (x *commandThing) put() (string, api.Errno) { return command.Put(x.c) }
func (x *commandThing) copy() thing              { y := *x; return &y }

func (x *commandThing) from(s string) (thing, api.Errno) {
	c, e := command.From(s)
	return &commandThing{c}, e
}

type messageThing struct{ m api.Message }

func (x *messageThing) numbers() map[string]func(int) {
	list := map[string]func(int){
		"Kind":   set(&x.m.Kind),
		"Group":  set(&x.m.Group),
		"From":   set(&x.m.From),
		"To":     set(&x.m.To),
		"Term":   set(&x.m.Term),
		"Index":  set(&x.m.Index),
		"At":     set(&x.m.At),
		"Commit": set(&x.m.Commit),
	}
	for i := range x.m.Entries {
		list[fmt.Sprintf("Entries[%d].Term", i)] = set(&x.m.Entries[i].Term)
	}
	return list
}

func (x *messageThing) texts() map[string]func(string) {
	list := map[string]func(string){"Data": setTo(&x.m.Data)}
	for i := range x.m.Entries {
		list[fmt.Sprintf("Entries[%d].Data", i)] = setTo(&x.m.Entries[i].Data)
	}
	return list
}

func (x *messageThing) truths() map[string]func(bool) {
	return map[string]func(bool){"Ok": setTo(&x.m.Ok)}
}

func (x *messageThing) list(count int) bool      { x.m.Entries = entries(count); return true }
func (x *messageThing) parts() []part            { return messageParts(x.m) }
func (x *messageThing) put() (string, api.Errno) { return command.PutMessage(x.m) }

func (x *messageThing) copy() thing {
	y := *x
	y.m.Entries = slices.Clone(y.m.Entries)
	return &y
}

func (x *messageThing) from(s string) (thing, api.Errno) {
	m, e := command.FromMessage(s)
	return &messageThing{m}, e
}

type askThing struct {
	id api.Id
	o  api.Op
}

func (x *askThing) numbers() map[string]func(int) {
	return opNumbers(&x.o, idNumbers(&x.id, map[string]func(int){}))
}

func (x *askThing) texts() map[string]func(string) { return opTexts(&x.o) }
func (x *askThing) truths() map[string]func(bool)  { return nil }
func (x *askThing) list(int) bool                  { return false }
func (x *askThing) parts() []part                  { return askParts(x.id, x.o) }
func (x *askThing) put() (string, api.Errno)       { return command.PutAsk(x.id, x.o) }
func (x *askThing) copy() thing                    { y := *x; return &y }

func (x *askThing) from(s string) (thing, api.Errno) {
	id, o, e := command.FromAsk(s)
	return &askThing{id, o}, e
}

type answerThing struct {
	id api.Id
	r  api.Reply
}

func (x *answerThing) numbers() map[string]func(int) {
	return idNumbers(&x.id, map[string]func(int){"Err": set(&x.r.Err), "At": set(&x.r.At)})
}

func (x *answerThing) texts() map[string]func(string) {
	list := map[string]func(string){}
	for i := range x.r.Posts {
		list[fmt.Sprintf("Posts[%d].User", i)] = setTo(&x.r.Posts[i].User)
		list[fmt.Sprintf("Posts[%d].Text", i)] = setTo(&x.r.Posts[i].Text)
	}
	return list
}

func (x *answerThing) truths() map[string]func(bool) { return nil }
func (x *answerThing) list(count int) bool           { x.r.Posts = posts(count); return true }
func (x *answerThing) parts() []part                 { return answerParts(x.id, x.r) }
func (x *answerThing) put() (string, api.Errno)      { return command.PutAnswer(x.id, x.r) }

func (x *answerThing) copy() thing {
	y := *x
	y.r.Posts = slices.Clone(y.r.Posts)
	return &y
}

func (x *answerThing) from(s string) (thing, api.Errno) {
	id, r, e := command.FromAnswer(s)
	return &answerThing{id, r}, e
}

// entries are so many, each one told from the others.
func entries(count int) []api.Entry {
	var list []api.Entry
	for i := range count {
		list = append(list, api.Entry{Term: 100 + i, Data: fmt.Sprint("entry ", i)})
	}
	return list
}

// posts are so many, each one told from the others.
func posts(count int) []api.Post {
	var list []api.Post
	for i := range count {
		list = append(list, api.Post{User: fmt.Sprint("user ", i), Text: fmt.Sprint("text ", i)})
	}
	return list
}

// noughts are things of the four kinds, with all fields nought.
func noughts() []thing {
	return []thing{&commandThing{}, &messageThing{}, &askThing{}, &answerThing{}}
}

// wholes are things of the four kinds, with no field nought, and no two fields the same.
func wholes() []thing {
	id := api.Id{Session: 301, Seq: 302}
	op := api.Op{Kind: 303, Space: "space", Channel: "channel", User: "user", Text: "text", ToSpace: "to space", To: "to", From: 304, Most: 305}
	return []thing{
		&commandThing{api.Command{Kind: 306, Id: id, Op: op, Tx: 307, Plan: 308, Slot: 309, Epoch: 310, Group: 311, Ok: true, Err: 312, Data: "data"}},
		&messageThing{api.Message{Kind: 306, Group: 307, From: 308, To: 309, Term: 310, Index: 311, At: 312, Entries: entries(3), Commit: 313, Ok: true, Data: "data"}},
		&askThing{id, op},
		&answerThing{id, api.Reply{Err: 306, At: 307, Posts: posts(3)}},
	}
}

// both are noughts and wholes.
func both() []thing { return append(noughts(), wholes()...) }

// same is whether two things are the same; nil and the empty list are.
func same(a, b thing) bool { return reflect.DeepEqual(bare(a), bare(b)) }

// bare is a thing whose list is nil, if it is empty.
func bare(x thing) thing {
	x = x.copy()
	switch y := x.(type) {
	case *messageThing:
		if len(y.m.Entries) == 0 {
			y.m.Entries = nil
		}
	case *answerThing:
		if len(y.r.Posts) == 0 {
			y.r.Posts = nil
		}
	}
	return x
}

// nought is a thing of the same kind as x, with all fields nought.
func nought(x thing) thing { return reflect.New(reflect.TypeOf(x).Elem()).Interface().(thing) }

// short is how bytes are told in a fault.
func short(s string) string {
	if len(s) > 200 {
		return fmt.Sprintf("%x.. (%d bytes)", s[:200], len(s))
	}
	return fmt.Sprintf("%x", s)
}

// may asks that a thing is put as the chapter's words have it, and read back.
func may(t *testing.T, what string, x thing) {
	t.Helper()
	want := joined(x.parts())
	if s, e := x.put(); s != want || e != api.OK {
		t.Errorf("%T, %s: put as %s, %d, not %s", x, what, short(s), e, short(want))
	}
	if y, e := x.from(want); !same(x, y) || e != api.OK {
		t.Errorf("%T, %s: %s is read as another one, %d", x, what, short(want), e)
	}
}

// isNone asks that bytes are none of x's kind.
func isNone(t *testing.T, what string, x thing, s string) {
	t.Helper()
	if y, e := x.from(s); !same(y, nought(x)) || e != api.ErrCommand {
		t.Errorf("%T, %s: %s is read, %d", x, what, short(s), e)
	}
}

// isRefused asks that a thing is not put.
func isRefused(t *testing.T, what string, x thing) {
	t.Helper()
	if s, e := x.put(); s != "" || e != api.ErrArg {
		t.Errorf("%T, %s: put as %s, %d", x, what, short(s), e)
	}
}
