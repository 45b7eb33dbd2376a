package wal

import (
	"rookery/api"
	"slices"
)

// mostData is how many bytes a record's data has at most.
const mostData = 1 << 17

// kind is what holds for the records of one kind.
type kind struct {
	may  func(r api.Record) bool               // whether its fields, but for the group, may be
	fits func(s *api.Saved, r api.Record) bool // whether it may come next in its group
	do   func(s *api.Saved, r api.Record)      // what it makes of its group
}

// kinds are all there are, by their numbers.
func kinds() map[int]kind {
	return map[int]kind{
		api.RecHard:  {mayHard, fitsHard, doHard},
		api.RecEntry: {mayEntry, fitsEntry, doEntry},
		api.RecCut:   {mayCut, fitsCut, doCut},
		api.RecBase:  {mayBase, fitsBase, doBase},
	}
}

func mayHard(r api.Record) bool {
	return isIndex(r.Term) && r.Vote >= -1 && r.Vote < api.MaxNodes && r.Index == 0 && r.Data == ""
}

func mayEntry(r api.Record) bool { return r.Index >= 1 && mayBase(r) }

func mayCut(r api.Record) bool {
	return r.Index >= 1 && isIndex(r.Index) && r.Term == 0 && r.Vote == 0 && r.Data == ""
}

func mayBase(r api.Record) bool {
	return isIndex(r.Index) && isIndex(r.Term) && len(r.Data) <= mostData && r.Vote == 0
}

// isIndex is whether a number may be an index or a term.
func isIndex(n int) bool { return n >= 0 && n <= api.MaxIndex }

func fitsHard(*api.Saved, api.Record) bool { return true }

func fitsEntry(s *api.Saved, r api.Record) bool {
	return r.Index == last(s)+1 && r.Term >= termAt(s, last(s))
}

func fitsCut(s *api.Saved, r api.Record) bool { return r.Index > s.Base && r.Index <= last(s) }

func fitsBase(s *api.Saved, r api.Record) bool { return r.Index >= s.Base }

func doHard(s *api.Saved, r api.Record) { s.Term, s.Vote = r.Term, r.Vote }

func doEntry(s *api.Saved, r api.Record) {
	s.Entries = append(s.Entries, api.Entry{Term: r.Term, Data: r.Data})
}

func doCut(s *api.Saved, r api.Record) {
	// Delete lets go of their data, too.
	s.Entries = slices.Delete(s.Entries, r.Index-s.Base-1, len(s.Entries))
}

func doBase(s *api.Saved, r api.Record) {
	var stay []api.Entry
	if r.Index <= last(s) && r.Term == termAt(s, r.Index) {
		// A copy: a piece of the list would keep those in memory that are gone.
		stay = slices.Clone(s.Entries[r.Index-s.Base:])
	}
	s.Base, s.BaseTerm, s.Data, s.Entries = r.Index, r.Term, r.Data, stay
}

// last is a group's last index.
func last(s *api.Saved) int { return s.Base + len(s.Entries) }

// termAt is the term at an index, from the base up to the last one.
func termAt(s *api.Saved, index int) int {
	if index == s.Base {
		return s.BaseTerm
	}
	return s.Entries[index-s.Base-1].Term
}

// fewest are the fewest records that make a group what it is.
func fewest(group int, s *api.Saved) []api.Record {
	var l []api.Record
	if s.Term != 0 || s.Vote != -1 {
		l = append(l, api.Record{Group: group, Kind: api.RecHard, Term: s.Term, Vote: s.Vote})
	}
	if s.Base != 0 || s.BaseTerm != 0 || s.Data != "" {
		l = append(l, api.Record{Group: group, Kind: api.RecBase, Index: s.Base, Term: s.BaseTerm, Data: s.Data})
	}
	for i, e := range s.Entries {
		l = append(l, api.Record{Group: group, Kind: api.RecEntry, Index: s.Base + 1 + i, Term: e.Term, Data: e.Data})
	}
	return l
}
