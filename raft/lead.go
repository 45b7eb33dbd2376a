package raft

import (
	"rookery/api"
	"slices"
)

// stand lets a node ask the others to vote for it, in a term that is one more.
func (n *Node) stand(draw int) []api.Message {
	if n.term == api.MaxIndex {
		n.left = n.wait
		return nil
	}
	n.hard = hard{n.term + 1, n.id}
	n.role, n.lead = api.Candidate, -1
	n.voted = [api.MaxNodes]bool{}
	n.voted[n.id] = true
	n.wait = waitOf(draw)
	n.left = n.wait
	if n.isElected() {
		return n.takeLead()
	}
	return n.toOthers(n.askVote)
}

// isElected is whether a majority voted for a candidate.
func (n *Node) isElected() bool {
	votes := 0
	for _, ok := range n.voted {
		if ok {
			votes++
		}
	}
	return 2*votes > n.nodes
}

// takeLead lets a node lead. What earlier terms left is committed with an entry of its own, and never alone: another leader could still cut it.
func (n *Node) takeLead() []api.Message {
	n.role, n.lead = api.Leader, n.id
	for i := range n.nodes {
		n.next[i], n.match[i] = n.log.Last()+1, 0
	}
	n.add(api.Entry{Term: n.term})
	n.commitMore()
	return n.toOthers(n.tell)
}

// commitMore lets a leader commit what a majority has, if it is of its term.
func (n *Node) commitMore() {
	match := n.match
	match[n.id] = n.log.Last()
	held := match[:n.nodes]
	slices.Sort(held)
	index := held[(n.nodes-1)/2] // more than half of the nodes stand from there on
	if index > n.commit && n.termAt(index) == n.term {
		n.commit = index
	}
}

// toOthers are messages to all others, by their numbers.
func (n *Node) toOthers(write func(to int) api.Message) []api.Message {
	var out []api.Message
	for to := range n.nodes {
		if to != n.id {
			out = append(out, write(to))
		}
	}
	return out
}

// message is one of a kind to a node, with what all of them have.
func (n *Node) message(kind, to int) api.Message {
	return api.Message{Kind: kind, Group: n.group, From: n.id, To: to, Term: n.term}
}

// askVote is how a candidate asks a node for its vote.
func (n *Node) askVote(to int) api.Message {
	m := n.message(api.MsgVote, to)
	m.Index, m.At = n.log.Last(), n.termAt(n.log.Last())
	return m
}

// tell is what a leader tells a node: entries, or the base, if the first of these entries is gone.
func (n *Node) tell(to int) api.Message {
	ahead, base := n.next[to]-1, n.log.Base()
	if ahead < base {
		m := n.message(api.MsgSnap, to)
		m.Index, m.At, m.Data, m.Commit = base, n.termAt(base), n.data, n.commit
		return m
	}
	m := n.message(api.MsgAppend, to)
	m.Index, m.At, m.Commit = ahead, n.termAt(ahead), n.commit
	m.Entries, _ = n.log.Slice(ahead+1, api.MaxBatch)
	return m
}
