package meta_test

import (
	"fmt"
	"rookery/api"
	"rookery/command"
	"rookery/meta"
	"rookery/shard"
	"rookery/slots"
	"slices"
	"strings"
	"testing"
)

// states are machines as they may stand.
func states(t *testing.T) []*both {
	t.Helper()
	voted, ended, many := lively(t), lively(t), made(t, 8)
	voted.err(api.OK, votesWith(4, 4, -1<<63, "\x00\xff"))
	ended.decide(1<<63 - 1)
	ended.err(api.OK, ends(4, 4))
	for i := range 12 {
		many.at(api.ErrBusy, i+1, begins(1000-i, 1+i, offs("ann")))
	}
	many.at(api.OK, 1, plans(15, 1))
	return []*both{made(t, 1), made(t, 2), made(t, 8), lively(t), voted, ended, many}
}

// TestThereAndBack: the machine of the bytes tells the same, and goes on as the other one does.
func TestThereAndBack(t *testing.T) {
	for _, b := range states(t) {
		b.same(back(t, b.m))
		for range 3 { // each command is done by a machine of the bytes, too
			b.decide(api.ErrThere)
			b.finish()
			b.apply(begins(7, 9, closes("w")))
			b.apply(plans(3, 1))
			b.apply(freezes(b.p.plans, "x"))
			b.apply(takes(b.p.plans))
			b.apply(plans(3, 2))
			b.apply(takes(b.p.plans))
		}
	}
}

// TestBytesHangOnWhatWasDoneAlone: not on the order in which maps are gone through.
func TestBytesHangOnWhatWasDoneAlone(t *testing.T) {
	for range 20 {
		if a, b := bytes(t, lively(t).m), bytes(t, lively(t).m); a != b {
			t.Fatalf("%x, and %x", a, b)
		}
	}
	a, b := made(t, 1), made(t, 1)
	for _, x := range []*both{a, b} {
		x.at(api.ErrBusy, 1, begins(5, 1, offs("ann")))
	}
	for slot := range 15 {
		a.err(api.OK, votes(1, slot, api.OK))
		b.err(api.OK, votes(1, 14-slot, api.OK))
	}
	if bytes(t, a.m) != bytes(t, b.m) {
		t.Errorf("in the other order the bytes are others")
	}
}

// isNone asks that bytes are no machine's.
func isNone(t *testing.T, what, s string) {
	t.Helper()
	if m, e := meta.From(s); m != nil || e != api.ErrCommand {
		t.Errorf("%s: From(%q): %v, %d", what, s, m, e)
	}
}

// answers asks each call of a machine: none may panic, and what is told of it must be the bytes that it was made of.
func answers(t *testing.T, s string, m *meta.Machine) {
	t.Helper()
	if again, e := m.Bytes(); again != s || e != api.OK {
		t.Errorf("From(%q), Bytes: %q, %d", s, again, e)
	}
	for slot := range 16 {
		if group, epoch, e := m.Owner(slot); group < 1 || group > 8 || epoch < 1 || e != api.OK {
			t.Errorf("From(%q), Owner(%d): %d, %d, %d", s, slot, group, epoch, e)
		}
	}
	waiting := m.Waiting()
	d, ok := m.Todo()
	if ok != (waiting > 0) || ok && (d.Tx < 1 || len(d.Slots) < 1) {
		t.Errorf("From(%q), Waiting: %d, Todo: %+v, %t", s, waiting, d, ok)
	}
	for range 2 * waiting {
		d, _ := m.Todo()
		for _, slot := range d.Slots {
			c := votes(d.Tx, slot, api.ErrOff)
			if d.Decided {
				c = ends(d.Tx, slot)
			}
			if r := m.Apply(c); r.Err != api.OK {
				t.Errorf("From(%q), Apply(%+v): %+v", s, c, r)
			}
		}
	}
	if ok {
		m.Apply(begins(d.Id.Session, d.Id.Seq, d.Op))
	}
	if m.Waiting() != 0 {
		t.Errorf("From(%q), Waiting behind all votes and ends: %d", s, m.Waiting())
	}
	p, ok := m.Plan()
	m.Apply(freezes(p.Plan, "x"))
	m.Apply(takes(p.Plan))
	if group, epoch, e := m.Owner(p.Slot); ok && (group != p.To || epoch != p.Epoch+1 || e != api.OK) {
		t.Errorf("From(%q), Owner(%d): %d, %d, %d, behind %+v", s, p.Slot, group, epoch, e, p)
	}
	b, e := m.Bytes()
	if _, again := meta.From(b); e != api.OK || again != api.OK {
		t.Errorf("From(%q), Bytes: %d, From: %d", s, e, again)
	}
}

// TestFromOfSpoiltBytes: nothing, each beginning, one byte less, one more, another one: ErrCommand, or a machine whose calls all answer.
func TestFromOfSpoiltBytes(t *testing.T) {
	t.Parallel()
	for _, b := range states(t) {
		s := bytes(t, b.m)
		var list []string
		for i := range s {
			isNone(t, "a beginning", s[:i])
			isNone(t, "an end", s[i+1:])
			list = append(list, s[:i]+s[i+1:], s[:i]+"\x00"+s[i:], s[:i]+s[i:i+1]+s[i:])
			for _, turn := range []byte{1, 2, 3, 4, 8, 0x20, 0x40, 0x80, 0xff} {
				list = append(list, s[:i]+string([]byte{s[i] ^ turn})+s[i+1:])
			}
			for _, huge := range []string{"\xff\xff\xff\xff\xff\xff\xff\xff\x7f", "\xff\xff\xff\xff\xff\xff\xff\xff\x3f", "\x80\x80\x80\x80\x80\x20", "\x81\x80\x80\x80\x80\x20", "\xff\xff\xff\xff\x07"} {
				list = append(list, s[:i]+huge+s[i+1:])
			}
		}
		for more := range 256 {
			isNone(t, "one byte more", s+string([]byte{byte(more)}))
		}
		isNone(t, "twice", s+s)
		taken := 0
		for _, f := range list {
			m, e := meta.From(f)
			switch {
			case e == api.OK:
				taken++
				answers(t, f, m)
			case e != api.ErrCommand || m != nil:
				t.Errorf("From(%q): %v, %d", f, m, e)
			}
		}
		if taken == 0 || taken > len(list)/2 {
			t.Errorf("of %d rows of bytes like %q %d are machines", len(list), s, taken)
		}
	}
}

// TestFromOfOtherBytes: of other layers, and none.
func TestFromOfOtherBytes(t *testing.T) {
	owners, _ := slots.New(2)
	told, _ := owners.Bytes()
	one, _ := shard.New(1, 2)
	shards, _ := one.Bytes()
	put, _ := command.Put(begins(5, 1, closes("w")))
	for _, s := range []string{"", "t", "x", told, shards, put, strings.Repeat("\x00", 1<<20), strings.Repeat("t", 1<<20), strings.Repeat("\xff", 1<<20), "t" + strings.Repeat("\x01", 1<<20)} {
		isNone(t, "other bytes", s)
	}
}

// told is a machine as it is written, part by part.
type told struct {
	mark, groups, owners string
	plan                 string
	answered             string
	sessions, waiting    []string
	data                 string
	votes, ends          []string
}

// text is one behind how many bytes it has, which are below 128.
func text(s string) string { return string([]byte{byte(len(s))}) + s }

// list is one behind how many it has, which are below 128.
func list(all []string) string { return string([]byte{byte(len(all))}) + strings.Join(all, "") }

func (x told) bytes() string {
	s := x.mark + x.groups + text(x.owners) + x.plan + x.answered + list(x.sessions) + list(x.waiting)
	if len(x.waiting) == 0 && x.data == "" && len(x.votes) == 0 && len(x.ends) == 0 {
		return s
	}
	return s + text(x.data) + list(x.votes) + list(x.ends)
}

// asked is a transaction as it is written.
func asked(t *testing.T, session, seq int, o api.Op) string {
	t.Helper()
	s, e := command.PutAsk(api.Id{Session: session, Seq: seq}, o)
	if e != api.OK {
		t.Fatal(e)
	}
	return text(s)
}

const noPlan = "\x00\x00\x00\x00"

// TestFromOfPartsThatMayNotBe: each part alone, at its edges.
func TestFromOfPartsThatMayNotBe(t *testing.T) {
	evenly := "S" + strings.Repeat("\x01\x01", 8) + strings.Repeat("\x02\x01", 8)
	plain := told{mark: "t", groups: "\x02", owners: evenly, plan: noPlan, answered: "\x00"}
	with := func(change func(x *told)) string {
		x := plain
		change(&x)
		return x.bytes()
	}
	off, move := asked(t, 5, 3, offs("ann")), asked(t, 5, 3, moving(t, 4, 9))
	var all, both []string
	for slot := range 16 {
		all = append(all, fmt.Sprintf("%c\x00\x00", slot))
		both = append(both, string([]byte{byte(slot)}))
	}
	for what, s := range map[string]string{
		"nothing in it":        with(func(x *told) {}),
		"all of one session":   with(func(x *told) { x.answered, x.sessions = "\x07", []string{"\x05\x07\x00\x00"} }),
		"one of each":          with(func(x *told) { x.answered, x.sessions = "\x02", []string{"\x05\x07\x00\x00", "\x06\x03\x00\x00"} }),
		"all of each":          with(func(x *told) { x.answered, x.sessions = "\x0a", []string{"\x05\x07\x00\x00", "\x06\x03\x00\x00"} }),
		"a plan":               with(func(x *told) { x.plan = "\x03\x02\x00\x00" }),
		"a plan that's frozen": with(func(x *told) { x.plan = "\x03\x02\x01\x01x" }),
		"sessions": with(func(x *told) {
			x.answered, x.sessions = "\x03", []string{"\x00\x01\x00\x00", "\x05\x02\x01\x08", "\xff\xff\xff\xff\x07\x01\x00\x5c"}
		}),
		"one that waits":   with(func(x *told) { x.waiting = []string{off} }),
		"some that wait":   with(func(x *told) { x.waiting = []string{move, asked(t, 0, 1, closes("w"))} }),
		"one of a session": with(func(x *told) { x.answered, x.sessions, x.waiting = "\x02", []string{"\x05\x02\x00\x00"}, []string{off} }),
		"a vote":           with(func(x *told) { x.waiting, x.data, x.votes = []string{move}, "x", []string{"\x09\x00\x03"} }),
		"all votes":        with(func(x *told) { x.waiting, x.votes = []string{off}, all }),
		"ends":             with(func(x *told) { x.waiting, x.votes, x.ends = []string{off}, all, both[1:] }),
	} {
		m, e := meta.From(s)
		if e != api.OK {
			t.Errorf("%s: From(%q): %d", what, s, e)
			continue
		}
		answers(t, s, m)
	}
	for what, s := range map[string]string{
		"no mark":                      with(func(x *told) { x.mark = "" }),
		"another mark":                 with(func(x *told) { x.mark = "m" }),
		"two marks":                    with(func(x *told) { x.mark = "tt" }),
		"no groups":                    with(func(x *told) { x.groups = "\x00" }),
		"too many groups":              with(func(x *told) { x.groups = "\x09" }),
		"owners that are none":         with(func(x *told) { x.groups = "\x01" }),
		"no owners":                    with(func(x *told) { x.owners = "" }),
		"owners of another mark":       with(func(x *told) { x.owners = "s" + evenly[1:] }),
		"one answered, of nobody":      with(func(x *told) { x.answered = "\x01" }),
		"one more than asked":          with(func(x *told) { x.answered, x.sessions = "\x0b", []string{"\x05\x07\x00\x00", "\x06\x03\x00\x00"} }),
		"one of two sessions":          with(func(x *told) { x.answered, x.sessions = "\x01", []string{"\x05\x07\x00\x00", "\x06\x03\x00\x00"} }),
		"far beyond":                   with(func(x *told) { x.answered = "\xff\xff\xff\xff\xff\xff\xff\xff\x7f" }),
		"a number that's too long":     with(func(x *told) { x.answered = "\x80\x00" }),
		"a plan of no slot":            with(func(x *told) { x.plan = "\x10\x02\x00\x00" }),
		"a plan to no group":           with(func(x *told) { x.plan = "\x03\x03\x00\x00" }),
		"a plan to its group":          with(func(x *told) { x.plan = "\x03\x01\x00\x00" }),
		"no plan, with a slot":         with(func(x *told) { x.plan = "\x03\x00\x00\x00" }),
		"no plan, frozen":              with(func(x *told) { x.plan = "\x00\x00\x01\x00" }),
		"no plan, with Data":           with(func(x *told) { x.plan = "\x00\x00\x00\x01x" }),
		"not frozen, with Data":        with(func(x *told) { x.plan = "\x03\x02\x00\x01x" }),
		"another truth":                with(func(x *told) { x.plan = "\x03\x02\x02\x01x" }),
		"sessions that fall":           with(func(x *told) { x.answered, x.sessions = "\x02", []string{"\x05\x01\x00\x00", "\x04\x01\x00\x00"} }),
		"a session twice":              with(func(x *told) { x.answered, x.sessions = "\x02", []string{"\x05\x01\x00\x00", "\x05\x02\x00\x00"} }),
		"a session of no number":       with(func(x *told) { x.answered, x.sessions = "\x01", []string{"\x80\x80\x80\x80\x08\x01\x00\x00"} }),
		"a session that asked nothing": with(func(x *told) { x.sessions = []string{"\x05\x00\x00\x00"} }),
		"an error of another truth":    with(func(x *told) { x.answered, x.sessions = "\x01", []string{"\x05\x01\x02\x00"} }),
		"one session less":             with(func(x *told) { x.answered, x.sessions = "\x01", []string{"\x05\x01\x00\x00", ""} }),
		"one that waits of no op": with(func(x *told) {
			x.waiting = []string{asked(t, 5, 3, api.Op{Kind: api.OpMake, Space: "w", Channel: "c"})}
		}),
		"one of what may not be":        with(func(x *told) { x.waiting = []string{asked(t, 5, 3, closes("W"))} }),
		"one of no id":                  with(func(x *told) { x.waiting = []string{asked(t, 5, 0, closes("w"))} }),
		"one that is nothing":           with(func(x *told) { x.waiting = []string{"\x00"} }),
		"one that is nothing among":     with(func(x *told) { x.waiting = []string{off, "\x00", asked(t, 6, 3, offs("ann"))} }),
		"two of one session":            with(func(x *told) { x.waiting = []string{off, asked(t, 5, 4, offs("ann"))} }),
		"one that was answered":         with(func(x *told) { x.answered, x.sessions, x.waiting = "\x01", []string{"\x05\x03\x00\x00"}, []string{off} }),
		"one that comes too late":       with(func(x *told) { x.answered, x.sessions, x.waiting = "\x01", []string{"\x05\x04\x00\x00"}, []string{off} }),
		"votes of none":                 with(func(x *told) { x.votes = []string{"\x09\x00\x00"} }),
		"Data of none":                  with(func(x *told) { x.data = "x" }),
		"Data without a vote":           with(func(x *told) { x.waiting, x.data = []string{off}, "x" }),
		"a vote of another slot":        with(func(x *told) { x.waiting, x.votes = []string{move}, []string{"\x03\x00\x00"} }),
		"a vote of no slot":             with(func(x *told) { x.waiting, x.votes = []string{off}, []string{"\x10\x00\x00"} }),
		"a vote twice":                  with(func(x *told) { x.waiting, x.votes = []string{off}, []string{"\x09\x00\x00", "\x09\x00\x00"} }),
		"votes that fall":               with(func(x *told) { x.waiting, x.votes = []string{off}, []string{"\x09\x00\x00", "\x08\x00\x00"} }),
		"an end where it's not decided": with(func(x *told) { x.waiting, x.votes, x.ends = []string{off}, all[1:], []string{"\x09"} }),
		"an end of no slot":             with(func(x *told) { x.waiting, x.votes, x.ends = []string{off}, all, []string{"\x10"} }),
		"an end twice":                  with(func(x *told) { x.waiting, x.votes, x.ends = []string{off}, all, []string{"\x09", "\x09"} }),
		"ends that fall":                with(func(x *told) { x.waiting, x.votes, x.ends = []string{off}, all, []string{"\x09", "\x08"} }),
		"all ends":                      with(func(x *told) { x.waiting, x.votes, x.ends = []string{off}, all, both }),
		"more votes than told":          with(func(x *told) { x.waiting, x.votes = []string{off}, []string{"\x09\x00\x00\x0a\x00\x00"} }),
	} {
		isNone(t, what, s)
	}
}

// TestFromOfTooMany: sessions and ones that wait, up to as many as there may be and one more.
func TestFromOfTooMany(t *testing.T) {
	x := told{mark: "t", groups: "\x01", owners: "S" + strings.Repeat("\x01\x01", 16), plan: noPlan, answered: "\x00"}
	for known := range 66 {
		x.sessions, x.waiting, x.answered = nil, nil, string([]byte{byte(known)})
		for i := range known {
			x.sessions = append(x.sessions, string([]byte{byte(i), 1, 0, 0}))
		}
		for i := known; i < 64; i++ {
			x.waiting = append(x.waiting, asked(t, i, 1, offs("ann")))
		}
		_, e := meta.From(x.bytes())
		if want := []api.Errno{api.OK, api.ErrCommand}[known/65]; e != want {
			t.Errorf("%d sessions, and %d that wait: %d, not %d", known, len(x.waiting), e, want)
		}
		x.waiting = append(x.waiting, asked(t, 64, 1, offs("ann")))
		isNone(t, "one more that waits", x.bytes())
		if known > 0 && known < 64 { // one of a session that the table has takes no room, but stands ahead of the last one that took some
			again := asked(t, 0, 2, offs("ann"))
			x.waiting[len(x.waiting)-1] = again
			isNone(t, "one that began at a full table", x.bytes())
			x.waiting = slices.Insert(x.waiting[:len(x.waiting)-1], 0, again)
			if _, e := meta.From(x.bytes()); e != api.OK {
				t.Errorf("%d sessions, and %d that wait: %d", known, len(x.waiting), e)
			}
		}
	}
}

// TestFromOfHugeCounts: of lists that are told to have more than there is, with bytes behind that are no number: it ends.
func TestFromOfHugeCounts(t *testing.T) {
	const huge, none = "\xff\xff\xff\xff\xff\xff\xff\xff\x7f", "\xff\xff\xff\xff\xff\xff\xff\xff\xff\xff"
	head := "t\x01" + text("S"+strings.Repeat("\x01\x01", 16)) + noPlan + "\x00"
	one := "\x01" + asked(t, 5, 3, offs("ann"))
	for _, s := range []string{head, head + "\x00", head + "\x00" + one + "\x00", head + "\x00" + one + "\x00\x00"} {
		for _, behind := range []string{"", none, "\x80\x00\x80\x00", strings.Repeat("\x00", 1000), huge} {
			isNone(t, "a huge count", s+huge+behind)
		}
	}
}

// TestTakeAtTheLastEpoch: no machine comes to it that New gave; the map refuses to give, and nothing is changed.
func TestTakeAtTheLastEpoch(t *testing.T) {
	const last = 1<<31 - 1
	s := told{mark: "t", groups: "\x02", owners: "S" + strings.Repeat("\x01\x01", 15) + "\x01\xff\xff\xff\xff\x07", plan: "\x0f\x02\x01\x00", answered: "\x00"}.bytes()
	m, e := meta.From(s)
	if e != api.OK {
		t.Fatalf("From(%q): %d", s, e)
	}
	if p, ok := m.Plan(); !ok || p != (meta.Plan{Plan: last, Slot: 15, From: 1, To: 2, Epoch: last, Frozen: true}) {
		t.Errorf("Plan: %+v, %t", p, ok)
	}
	r := m.Apply(takes(last))
	if group, epoch, e := m.Owner(15); r.Err != api.ErrArg || group != 1 || epoch != last || e != api.OK || bytes(t, m) != s {
		t.Errorf("CmdTaken: %+v, Owner: %d, %d, %d", r, group, epoch, e)
	}
}

// TestErrorsOfAnyNumber: there and back.
func TestErrorsOfAnyNumber(t *testing.T) {
	b := made(t, 1)
	errs := []api.Errno{0, 1, 127, 128, 1 << 20, 1 << 40, 1<<40 + 1, 1<<63 - 1, -1, -2, -127, -128, -129, -1 << 40, -1 << 63, -1<<63 + 1}
	for i, e := range errs {
		b.whole(i, 1, moves("w", "c", "w", "c"), e)
	}
	m := back(t, b.m)
	for i, e := range errs {
		if r := m.Apply(begins(i, 1, closes("w"))); r.Err != e || r.At != 0 || r.Posts != nil {
			t.Errorf("session %d: %+v, not %d", i, r, e)
		}
	}
}
