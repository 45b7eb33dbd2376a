package meta_test

import (
	"rookery/api"
	"rookery/meta"
	"testing"
)

// TestPlanArguments: slots and groups at their edges.
func TestPlanArguments(t *testing.T) {
	for groups := 1; groups <= 8; groups++ {
		b := made(t, groups)
		n := 0
		for _, slot := range append([]int{-1, 0, 7, 15, 16}, beyond...) {
			for _, group := range append([]int{-1, 0, 1, groups, groups + 1, 8, 9}, beyond...) {
				want := api.OK
				switch {
				case slot < 0 || slot > 15 || group < 1 || group > groups:
					want = api.ErrArg
				case group == b.p.owner[slot]:
					want = api.ErrThere
				}
				at := 0
				if want == api.OK {
					n++
					at = n
				}
				b.at(want, at, plans(slot, group))
				if want != api.OK {
					continue
				}
				b.err(api.ErrBusy, plans(slot, group))
				b.err(api.OK, freezes(n, ""))
				b.err(api.OK, takes(n))
			}
		}
	}
}

// TestPlanBeside: with a plan there already, in which order it is refused.
func TestPlanBeside(t *testing.T) {
	b := made(t, 2)
	b.at(api.OK, 1, plans(3, 2))
	for range 2 { // on its way, and frozen
		b.err(api.ErrBusy, plans(3, 2))
		b.err(api.ErrBusy, plans(3, 1)) // to the group that has it
		b.err(api.ErrBusy, plans(4, 2))
		b.err(api.ErrBusy, plans(4, 1))
		b.err(api.ErrArg, plans(4, 3))
		b.err(api.ErrArg, plans(16, 2))
		b.p.apply(freezes(1, "x"))
		b.m.Apply(freezes(1, "x"))
	}
	b.err(api.OK, takes(1))
	b.err(api.ErrThere, plans(3, 2))
	b.err(api.ErrThere, plans(4, 1))
	b.at(api.OK, 2, plans(3, 1))
}

// TestPlan: one from its beginning to its end, what is about another one, and what comes twice or too soon.
func TestPlan(t *testing.T) {
	b := made(t, 2)
	others := func(plan int) {
		t.Helper()
		for _, other := range append([]int{0, -1, 1, 2, 3, 4}, beyond...) {
			if other != plan {
				b.err(api.ErrNone, freezes(other, "other"))
				b.err(api.ErrNone, takes(other))
			}
		}
	}
	tell := func(want meta.Plan) {
		t.Helper()
		if p, ok := b.m.Plan(); p != want || ok != (want != meta.Plan{}) {
			t.Fatalf("Plan: %+v, %t; not %+v", p, ok, want)
		}
	}
	others(0)
	tell(meta.Plan{})
	for n, x := range []struct {
		slot, from, to, epoch int
		data                  string
	}{{0, 1, 2, 1, "x"}, {15, 2, 1, 1, ""}, {0, 2, 1, 2, "\x00\xff"}, {0, 1, 2, 3, string(make([]byte, 1<<18+1))}} {
		want := meta.Plan{Plan: n + 1, Slot: x.slot, From: x.from, To: x.to, Epoch: x.epoch}
		b.at(api.OK, n+1, plans(x.slot, x.to))
		tell(want)
		others(n + 1)
		b.err(api.ErrNone, takes(n+1)) // ahead of CmdFrozen
		tell(want)
		b.err(api.OK, freezes(n+1, x.data))
		want.Frozen, want.Data = true, x.data
		tell(want)
		b.err(api.ErrNone, freezes(n+1, "twice"))
		others(n + 1)
		tell(want)
		if group, epoch, e := b.m.Owner(x.slot); group != x.from || epoch != x.epoch || e != api.OK {
			t.Errorf("Owner(%d): %d, %d, %d", x.slot, group, epoch, e)
		}
		b.err(api.OK, takes(n+1))
		tell(meta.Plan{})
		if group, epoch, e := b.m.Owner(x.slot); group != x.to || epoch != x.epoch+1 || e != api.OK {
			t.Errorf("Owner(%d): %d, %d, %d", x.slot, group, epoch, e)
		}
		b.err(api.ErrNone, takes(n+1)) // twice
		b.err(api.ErrNone, freezes(n+1, "late"))
		others(0)
	}
}

// TestOneGroup: no slot has where to go.
func TestOneGroup(t *testing.T) {
	b := made(t, 1)
	for slot := range 16 {
		b.err(api.ErrThere, plans(slot, 1))
		b.err(api.ErrArg, plans(slot, 2))
	}
}

// TestPlansBesideTransactions: neither waits for the other.
func TestPlansBesideTransactions(t *testing.T) {
	b := made(t, 2)
	b.at(api.ErrBusy, 1, begins(5, 1, closes("w")))
	b.at(api.OK, 1, plans(3, 2))
	b.err(api.OK, votes(1, 3, api.OK))
	b.err(api.OK, freezes(1, "x"))
	b.decide(api.OK)
	b.err(api.OK, ends(1, 3))
	b.err(api.OK, takes(1))
	b.at(api.OK, 2, plans(3, 1))
	b.finish()
	b.err(api.OK, begins(5, 1, closes("w")))
	b.err(api.OK, freezes(2, ""))
	b.at(api.ErrBusy, 2, begins(5, 2, closes("w")))
	b.err(api.OK, takes(2))
}
