package shard_test

import (
	"rookery/api"
	"rookery/command"
	"rookery/shard"
	"slices"
	"strings"
	"testing"
)

// states are machines as they may stand.
func states(t *testing.T) []*both {
	t.Helper()
	o := moves("w", named(t, "w", 5, 0), "v", named(t, "v", 6, 0))
	held, moving, frozen := lively(t), lively(t), lively(t)
	held.err(api.OK, locks(9, 5, closes("w")))
	held.err(api.OK, finishes(8, 6, offs("ann"), true, ""))
	held.err(api.ErrOff, locks(9, 6, offs("ann")))
	held.err(api.OK, locks(9, 7, offs("ann")))
	moving.data(locks(9, 5, o))
	moving.err(api.OK, locks(9, 6, o))
	moving.err(api.ErrNone, locks(most, 7, moves("w", named(t, "w", 7, 0), "v", named(t, "v", 6, 0))))
	frozen.data(freezes(3, 5, 1))
	frozen.data(freezes(most, 6, 1))
	frozen.err(api.OK, takes(1, 8, most, frozen.data(freezes(1, 9, 1))))
	return []*both{made(t, 1, 1), made(t, 8, 1), made(t, 2, 3), lively(t), held, moving, frozen}
}

// TestThereAndBack: the machine of the bytes tells the same, and goes on as the other one does.
func TestThereAndBack(t *testing.T) {
	for _, b := range states(t) {
		c := b.copy()
		c.same()
		for slot := range 16 {
			for _, x := range []*both{b, c} {
				x.apply(ops(1, 1, slot, makes("w", named(t, "w", slot, 0))))
				x.apply(locks(9, slot, closes("w")))
				x.apply(finishes(9, slot, closes("w"), true, ""))
				x.apply(freezes(3, slot, 1))
				x.look(slot, "ann", "bob", "eve", "zoe")
			}
		}
		if bytes(t, b.m) != bytes(t, c.m) {
			t.Errorf("the machine of the bytes went on as another one")
		}
	}
}

// TestBytesHangOnWhatWasDoneAlone: not on the order in which maps are gone through.
func TestBytesHangOnWhatWasDoneAlone(t *testing.T) {
	for range 20 {
		if a, b := bytes(t, lively(t).m), bytes(t, lively(t).m); a != b {
			t.Fatalf("%x, and %x", a, b)
		}
	}
	a, b := made(t, 1, 1), made(t, 1, 1)
	for nth := range 9 {
		a.err(api.OK, ops(nth, 1, 5, makes("w", named(t, "w", 5, nth))))
		b.err(api.OK, ops(8-nth, 1, 5, makes("w", named(t, "w", 5, 8-nth))))
		a.err(api.OK, finishes(1+nth, 5, offs(named(t, "w", 0, nth)), true, ""))
		b.err(api.OK, finishes(9-nth, 5, offs(named(t, "w", 0, 8-nth)), true, ""))
	}
	if bytes(t, a.m) != bytes(t, b.m) {
		t.Errorf("in the other order the bytes are others")
	}
}

// isNone asks that bytes are no machine's.
func isNone(t *testing.T, s string) {
	t.Helper()
	if m, e := shard.From(s); m != nil || e != api.ErrCommand {
		t.Errorf("From(%x): %v, %d", s, m, e)
	}
}

// TestFromOfSpoiltBytes: nothing, each beginning, one byte less, more, another one.
func TestFromOfSpoiltBytes(t *testing.T) {
	for _, b := range states(t) {
		for _, s := range spoilt(bytes(t, b.m)) {
			isNone(t, s)
		}
	}
	b := lively(t)
	isNone(t, b.copy().data(freezes(1, 5, 1)))
	isNone(t, b.data(locks(9, 5, moves("w", named(t, "w", 5, 0), "v", named(t, "v", 6, 0)))))
	isNone(t, strings.Repeat("\x00", 1<<20))
	isNone(t, strings.Repeat("m", 1<<20))
}

// summed are bytes with the sum behind them that they should have.
func summed(s string) string {
	sum := uint32(0)
	for _, b := range []byte(s) {
		sum = (sum + uint32(b) + 1) * 16777619
	}
	return s + string([]byte{byte(sum), byte(sum >> 8), byte(sum >> 16), byte(sum >> 24)})
}

// forged are bytes that nobody told, but with the right sum: so they are read to their end.
func forged(s string) []string {
	s = s[:len(s)-4]
	list := []string{summed("")}
	for i := range s {
		list = append(list, summed(s[:i]), summed(s[:i]+s[i+1:]), summed(s[:i]+"\x00"+s[i:]), summed(s[:i]+s[i:i+1]+s[i:]))
		for _, turn := range []byte{1, 2, 3, 4, 8, 0x20, 0x80, 0xff} {
			list = append(list, summed(s[:i]+string([]byte{s[i] ^ turn})+s[i+1:]))
		}
		for _, huge := range []string{"\xff\xff\xff\xff\xff\xff\xff\xff\x7f", "\xff\xff\xff\xff\xff\xff\xff\xff\x3f", "\x80\x80\x80\x80\x80\x20", "\x81\x80\x80\x80\x80\x20"} {
			list = append(list, summed(s[:i]+huge+s[i+1:]))
		}
	}
	for more := range 256 {
		list = append(list, summed(s+string([]byte{byte(more)})))
	}
	return append(list, summed(s+s), summed(s+strings.Repeat("\x00", 99)))
}

// answers asks each call of a machine: none may panic, and what is told of it must be its bytes.
func answers(t *testing.T, m *shard.Machine, s string) {
	t.Helper()
	if again, e := m.Bytes(); again != s || e != api.OK {
		t.Errorf("From(%x), Bytes: %x, %d", s, again, e)
	}
	o := moves("w", named(t, "w", 5, 0), "v", named(t, "v", 6, 0))
	for slot := range 16 {
		m.Apply(ops(7, 9, slot, reads("w", named(t, "w", slot, 0), 0, 64)))
		m.Apply(ops(7, 10, slot, posts("w", named(t, "w", slot, 0), "ann", "hi")))
		data := m.Apply(locks(9, slot, o)).Data
		m.Apply(finishes(9, slot, o, true, data))
		m.Apply(finishes(11, slot, offs("ann"), true, ""))
		state, epoch, e := m.Slot(slot)
		if state < 0 || state > 2 || epoch < 0 || e != api.OK || m.Holds(slot) < 0 || m.Holds(slot) > 1 {
			t.Errorf("From(%x), Slot(%d): %d, %d, %d, Holds: %d", s, slot, state, epoch, e, m.Holds(slot))
		}
		m.Apply(freezes(1, slot, epoch))
	}
	if list := m.Channels("w"); !slices.IsSorted(list) {
		t.Errorf("From(%x), Channels: %q", s, list)
	}
	b, e := m.Bytes()
	if _, again := shard.From(b); e != api.OK || again != api.OK {
		t.Errorf("From(%x), Bytes: %d, From: %d", s, e, again)
	}
}

// TestFromOfForgedBytes: ErrCommand, or a machine whose bytes they are, and whose calls all answer.
func TestFromOfForgedBytes(t *testing.T) {
	t.Parallel()
	taken := 0
	for _, b := range states(t) {
		s := bytes(t, b.m)
		for _, f := range forged(s) {
			m, e := shard.From(f)
			switch {
			case e == api.OK:
				taken++
				answers(t, m, f)
			case e != api.ErrCommand || m != nil:
				t.Errorf("From(%x): %v, %d", f, m, e)
			}
		}
	}
	if taken == 0 {
		t.Errorf("no bytes were read: they are summed otherwise")
	}
}

// TestTakesAndFinishesOfForgedData: ErrCommand, with nothing changed, or a machine whose calls all answer.
func TestTakesAndFinishesOfForgedData(t *testing.T) {
	t.Parallel()
	a := lively(t)
	o := moves("w", named(t, "w", 5, 0), "v", named(t, "v", 6, 0))
	channel := a.copy().data(locks(9, 5, o))
	stands := a.data(freezes(3, 5, 1))
	for _, c := range []api.Command{takes(1, 6, 2, stands), finishes(9, 6, o, true, channel)} {
		was := bytes(t, made(t, 1, 1).m)
		taken := 0
		for _, f := range forged(c.Data) {
			c.Data = f
			m := from(t, was)
			r := m.Apply(c)
			s := bytes(t, m)
			switch {
			case r.Reply.Err == api.OK:
				taken++
				answers(t, m, s)
			case r.Reply.Err != api.ErrCommand || s != was:
				t.Errorf("Apply(%+v): %v", c, r)
			}
		}
		if taken == 0 {
			t.Errorf("no bytes were read: they are summed otherwise")
		}
	}
}

// text is one behind how many bytes it has.
func text(s string) string { return string([]byte{byte(len(s))}) + s }

// slotFive are the bytes of a machine that has the slot 5 alone, which is told by these.
func slotFive(told string) string {
	return summed("m" + strings.Repeat("\x00", 5) + told + strings.Repeat("\x00", 10))
}

// TestFromOfSlotsThatMayNotBe: each field alone, at its edges.
func TestFromOfSlotsThatMayNotBe(t *testing.T) {
	const empty = "\x00\x00\x00\x00" // nobody off, no channels, no sessions, none that ended
	const beyondMost = "\x81\x80\x80\x80\x80\x20"
	held := func(c api.Command) string {
		s, e := command.Put(c)
		if e != api.OK {
			t.Fatal(e)
		}
		return text(s)
	}
	hold := locks(9, 5, offs("ann"))
	may := map[string]string{
		"here":                   "\x01\x01\x00\x00" + empty,
		"frozen":                 "\x02\x01\x01\x00" + empty,
		"at the last epoch":      "\x01\x80\x80\x80\x80\x80\x20\x00\x00" + empty,
		"held":                   "\x01\x01\x00" + held(hold) + empty,
		"one that ended":         "\x01\x01\x00\x00\x00\x00\x00\x01\x01\x00",
		"two that ended":         "\x01\x01\x00\x00\x00\x00\x00\x02\x01\x00\x02\x00",
		"the last one ended":     "\x01\x01\x00\x00\x00\x00\x00\x01\x80\x80\x80\x80\x80\x20\x00",
		"users that are off":     "\x01\x01\x00\x00\x02\x01a\x01b\x00\x00\x00",
		"two channels":           "\x01\x01\x00\x00\x00\x02\x01w\x01c\x00\x00\x01w\x01d\x00\x00\x00\x00",
		"another slot's channel": "\x01\x01\x00\x00\x00\x01\x01w\x03c12\x00\x00\x00\x00",
	}
	for what, told := range may {
		s := slotFive(told)
		m, e := shard.From(s)
		if e != api.OK {
			t.Errorf("%s: From(%x): %d", what, s, e)
			continue
		}
		answers(t, m, s)
	}
	with := func(change func(c *api.Command)) string {
		c := hold
		change(&c)
		return "\x01\x01\x00" + held(c) + empty
	}
	for what, told := range map[string]string{
		"another state":                "\x03\x01\x01\x00" + empty,
		"not here, with an epoch":      "\x00\x01",
		"here without an epoch":        "\x01\x00\x00\x00" + empty,
		"beyond the last epoch":        "\x01" + beyondMost + "\x00\x00" + empty,
		"here with a plan":             "\x01\x01\x01\x00" + empty,
		"frozen without a plan":        "\x02\x01\x00\x00" + empty,
		"frozen beyond the last plan":  "\x02\x01" + beyondMost + "\x00" + empty,
		"frozen and held":              "\x02\x01\x01" + held(hold) + empty,
		"held by no command":           "\x01\x01\x00\x01C" + empty,
		"held by another kind":         with(func(c *api.Command) { c.Kind = api.CmdFinish }),
		"held by nobody":               with(func(c *api.Command) { c.Tx = 0 }),
		"held in another slot":         with(func(c *api.Command) { c.Slot = 6 }),
		"held in none":                 with(func(c *api.Command) { c.Slot = 16 }),
		"held for an op of one":        with(func(c *api.Command) { c.Op = makes("w", named(t, "w", 5, 0)) }),
		"held for another slot's":      with(func(c *api.Command) { c.Op = moves("w", named(t, "w", 6, 0), "w", named(t, "w", 6, 1)) }),
		"held for what may not be":     with(func(c *api.Command) { c.Op = offs("Ann") }),
		"held, with a plan":            with(func(c *api.Command) { c.Plan = 1 }),
		"held, with Data":              with(func(c *api.Command) { c.Data = "x" }),
		"held, with Ok":                with(func(c *api.Command) { c.Ok = true }),
		"held, with another vote":      with(func(c *api.Command) { c.Err = api.ErrNone }),
		"closed, with a vote":          with(func(c *api.Command) { c.Op, c.Err = closes("w"), api.ErrOff }),
		"moved, with another vote":     with(func(c *api.Command) { c.Op, c.Err = moves("w", named(t, "w", 5, 0), "w", "d"), api.ErrOff }),
		"held by one that ended":       "\x01\x01\x00" + held(hold) + "\x00\x00\x00\x01\x09\x00",
		"nought ended":                 "\x01\x01\x00\x00\x00\x00\x00\x01\x00\x00",
		"nought and one ended":         "\x01\x01\x00\x00\x00\x00\x00\x01\x00\x01",
		"ended, all round the numbers": "\x01\x01\x00\x00\x00\x00\x00\x02\x05\x00\xff\xff\xff\xff\xff\xff\xff\xff\x7f\xff\xff\xff\xff\xff\xff\xff\xff\x7f",
		"one beyond the last ended":    "\x01\x01\x00\x00\x00\x00\x00\x01" + beyondMost + "\x00",
		"ended up to beyond the last":  "\x01\x01\x00\x00\x00\x00\x00\x01\x01\x80\x80\x80\x80\x80\x20",
		"spans that touch":             "\x01\x01\x00\x00\x00\x00\x00\x02\x01\x00\x01\x00",
		"spans that are one":           "\x01\x01\x00\x00\x00\x00\x00\x02\x01\x00\x00\x00",
		"users that are off twice":     "\x01\x01\x00\x00\x02\x01a\x01a\x00\x00\x00",
		"users that fall":              "\x01\x01\x00\x00\x02\x01b\x01a\x00\x00\x00",
		"users without a name":         "\x01\x01\x00\x00\x01\x00\x00\x00\x00",
		"users of another name":        "\x01\x01\x00\x00\x01\x01A\x00\x00\x00",
		"one channel twice":            "\x01\x01\x00\x00\x00\x02\x01w\x01c\x00\x00\x01w\x01c\x00\x00\x00\x00",
		"channels that fall":           "\x01\x01\x00\x00\x00\x02\x01w\x01d\x00\x00\x01w\x01c\x00\x00\x00\x00",
		"workspaces that fall":         "\x01\x01\x00\x00\x00\x02\x01w\x01c\x00\x00\x01v\x01d\x00\x00\x00\x00",
		"a channel without a name":     "\x01\x01\x00\x00\x00\x01\x01w\x00\x00\x00\x00\x00",
		"a member twice":               "\x01\x01\x00\x00\x00\x01\x01w\x01c\x02\x01a\x01a\x00\x00\x00",
		"a member of another name":     "\x01\x01\x00\x00\x00\x01\x01w\x01c\x01\x01A\x00\x00\x00",
		"a post of nobody":             "\x01\x01\x00\x00\x00\x01\x01w\x01c\x00\x01\x00\x01x\x00\x00",
		"a post of no text":            "\x01\x01\x00\x00\x00\x01\x01w\x01c\x00\x01\x01a\x01\xff\x00\x00",
		"more channels than told":      "\x01\x01\x00\x00\x00\x02\x01w\x01c\x00\x00\x00\x00",
	} {
		s := slotFive(told)
		if m, e := shard.From(s); m != nil || e != api.ErrCommand {
			t.Errorf("%s: From(%x): %v, %d", what, s, m, e)
		}
	}
}

// TestFromOfTooMany: posts of a channel, and sessions of a slot, up to the last one and one more.
func TestFromOfTooMany(t *testing.T) {
	channel := func(count int) string {
		head := string([]byte{byte(count%128 + 128), byte(count / 128)})
		return "\x01\x01\x00\x00\x00\x01\x01w\x01c\x01\x01a" + head + strings.Repeat("\x01a\x01x", count) + "\x00\x00"
	}
	sessions := func(count int) string {
		list := ""
		for i := range count {
			s, _ := command.PutAnswer(api.Id{Session: i, Seq: 1}, api.Reply{})
			list += text(s)
		}
		return "\x01\x01\x00\x00\x00\x00" + string([]byte{byte(count)}) + list + "\x00"
	}
	for told, want := range map[string]api.Errno{channel(1024): api.OK, channel(1025): api.ErrCommand, sessions(64): api.OK, sessions(65): api.ErrCommand} {
		if _, e := shard.From(slotFive(told)); e != want {
			t.Errorf("From(%x): %d, not %d", told[:40], e, want)
		}
	}
	a, _ := command.PutAnswer(api.Id{Session: 5, Seq: 1}, api.Reply{})
	later, _ := command.PutAnswer(api.Id{Session: 5, Seq: 2}, api.Reply{})
	b, _ := command.PutAnswer(api.Id{Session: 4, Seq: 1}, api.Reply{})
	none, _ := command.PutAnswer(api.Id{Session: 5, Seq: 0}, api.Reply{})
	ask, _ := command.PutAsk(api.Id{Session: 5, Seq: 1}, closes("w"))
	for what, list := range map[string]string{
		"are there twice": "\x02" + text(a) + text(a), "are the same one": "\x02" + text(a) + text(later), "fall": "\x02" + text(a) + text(b), "may not be": "\x01" + text(none), "are others": "\x01" + text(ask), "are nothing": "\x01\x00",
	} {
		if _, e := shard.From(slotFive("\x01\x01\x00\x00\x00\x00" + list + "\x00")); e != api.ErrCommand {
			t.Errorf("sessions that %s: %d", what, e)
		}
	}
}
