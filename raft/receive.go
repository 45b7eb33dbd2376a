package raft

import "rookery/api"

// take is what a node does with a message of one kind, which may be and is of no later term than its own: what it sends then.
type take func(n *Node, m api.Message) []api.Message

// takes are all of them, by the kinds of messages.
func takes() map[int]take {
	return map[int]take{
		api.MsgVote:     (*Node).takeVote,
		api.MsgVoted:    (*Node).takeVoted,
		api.MsgAppend:   (*Node).takeAppend,
		api.MsgAppended: (*Node).takeAppended,
		api.MsgSnap:     (*Node).takeSnap,
	}
}

// may is whether a message may be to the node.
func (n *Node) may(m api.Message) bool {
	_, known := n.takes[m.Kind]
	return known && m.Group == n.group && m.To == n.id &&
		m.From >= 0 && m.From < n.nodes && m.From != n.id &&
		m.Term >= 1 && isIndex(m.Term) && isIndex(m.Index) && isIndex(m.At) && isIndex(m.Commit) &&
		mayEntries(m) && len(m.Data) <= api.MaxRecord
}

// mayEntries is whether a message may have its entries.
func mayEntries(m api.Message) bool {
	if len(m.Entries) > api.MaxBatch {
		return false
	}
	before := m.At
	for _, x := range m.Entries {
		if x.Term < before || x.Term > m.Term || len(x.Data) > api.MaxRecord {
			return false
		}
		before = x.Term
	}
	return true
}

// takeVote gives a candidate the vote, or not.
func (n *Node) takeVote(m api.Message) []api.Message {
	free := n.vote == -1 || n.vote == m.From
	ok := m.Term == n.term && n.role == api.Follower && free && n.log.Newer(m.Index, m.At)
	if ok {
		n.vote, n.left = m.From, n.wait
	}
	answer := n.message(api.MsgVoted, m.From)
	answer.Ok = ok
	return []api.Message{answer}
}

// takeVoted counts a vote.
func (n *Node) takeVoted(m api.Message) []api.Message {
	if m.Term != n.term || n.role != api.Candidate || !m.Ok {
		return nil
	}
	n.voted[m.From] = true
	if !n.isElected() {
		return nil
	}
	return n.takeLead()
}

// takeAppend takes a leader's entries.
func (n *Node) takeAppend(m api.Message) []api.Message {
	if out, follows := n.follow(m); !follows {
		return out
	}
	last := n.log.Last()
	if m.Index > last || m.Index >= n.log.Base() && !n.has(m.Index, m.At) {
		return n.appended(m.From, false, max(0, min(last, m.Index-1)))
	}
	first := n.firstNew(m)
	if n.turnsCommitted(m, first) {
		return nil
	}
	n.replace(m.Index+1+first, m.Entries[first:])
	end := m.Index + len(m.Entries) // wherever the log ends now: it may have refused some of them
	n.commit = max(n.commit, min(m.Commit, end))
	return n.appended(m.From, true, end)
}

// takeAppended lets a leader know up to where a node's log is the same, or that it has to go further back.
func (n *Node) takeAppended(m api.Message) []api.Message {
	if m.Term != n.term || n.role != api.Leader {
		return nil
	}
	next, match := &n.next[m.From], &n.match[m.From]
	if !m.Ok {
		*next = max(*match+1, min(*next-1, m.Index+1))
		return []api.Message{n.tell(m.From)}
	}
	if m.Index > n.log.Last() {
		return nil
	}
	*match = max(*match, m.Index)
	*next = max(*next, *match+1)
	n.commitMore()
	if *next > n.log.Last() {
		return nil
	}
	return []api.Message{n.tell(m.From)}
}

// takeSnap takes a leader's base.
func (n *Node) takeSnap(m api.Message) []api.Message {
	if out, follows := n.follow(m); !follows {
		return out
	}
	if m.Index > n.commit {
		n.rebase(m.Index, m.At, m.Data)
		n.commit = m.Index
	}
	return n.appended(m.From, true, n.commit)
}

// follow lets the node follow a leader's message, if that is not of an earlier term; else it is what the node answers.
func (n *Node) follow(m api.Message) (out []api.Message, follows bool) {
	if m.Term < n.term {
		return n.appended(m.From, false, n.log.Last()), false
	}
	if n.role == api.Leader {
		return nil, false
	}
	n.role, n.lead, n.left = api.Follower, m.From, n.wait
	return nil, true
}

// appended is the answer to a leader.
func (n *Node) appended(to int, ok bool, index int) []api.Message {
	m := n.message(api.MsgAppended, to)
	m.Ok, m.Index = ok, index
	return []api.Message{m}
}

// firstNew is the place of the first of a message's entries that is neither in the base nor there with its term; those behind it aren't, either.
func (n *Node) firstNew(m api.Message) int {
	for i, x := range m.Entries {
		index := m.Index + 1 + i
		if index > n.log.Base() && !n.has(index, x.Term) {
			return i
		}
	}
	return len(m.Entries)
}

// turnsCommitted is whether the first new one of a message's entries would stand where something else is committed; no leader that keeps to the rules sends such ones. Behind the log's end nothing is, wherever the commit is.
func (n *Node) turnsCommitted(m api.Message, first int) bool {
	return first < len(m.Entries) && m.Index+1+first <= min(n.commit, n.log.Last())
}

// replace puts entries at an index and behind it.
func (n *Node) replace(index int, entries []api.Entry) {
	if len(entries) == 0 {
		return
	}
	n.cut(index)
	for _, x := range entries {
		n.add(x)
	}
}
