package raft

import (
	"rookery/api"
	"rookery/rlog"
	"strings"
)

// termAt is the term at an index from the base to the last one (behind that nothing is: 0).
func (n *Node) termAt(index int) int {
	term, _ := n.log.Term(index)
	return term
}

// has is whether an entry, or the base, stands at an index with that term.
func (n *Node) has(index, term int) bool {
	t, e := n.log.Term(index)
	return e == api.OK && t == term
}

// add puts an entry behind all others. If the log refuses it (it is full, or the entry's term is below the last one's), the log stays as it is, and whoever wanted it there goes on: there is no other answer for that.
func (n *Node) add(x api.Entry) {
	index, e := n.log.Append(x)
	if e != api.OK {
		return
	}
	x, _ = n.log.Entry(index) // its data is a copy: what was handed in is not kept
	n.records = append(n.records, api.Record{Group: n.group, Kind: api.RecEntry, Index: index, Term: x.Term, Data: x.Data})
}

// cut drops all entries from an index on, if there are some.
func (n *Node) cut(index int) {
	if index > n.log.Last() {
		return
	}
	n.log.Cut(index)
	n.records = append(n.records, api.Record{Group: n.group, Kind: api.RecCut, Index: index})
}

// rebase lets an index and its term, which may be, be the base. What stands behind it is of another log if another term stands there, or nothing does.
func (n *Node) rebase(index, term int, data string) {
	if n.has(index, term) {
		n.log.Compact(index)
	} else {
		n.log, _ = rlog.New(index, term)
	}
	n.data = strings.Clone(data) // it may be a small piece of a text that should not be kept
	n.records = append(n.records, api.Record{Group: n.group, Kind: api.RecBase, Index: index, Term: term, Data: n.data})
}
