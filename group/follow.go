package group

import (
	"rookery/api"
	"rookery/command"
	"slices"
)

// beginWith lets the machine be one that has all that the log's base holds, and nothing else.
func (g *Group) beginWith(m machine) {
	s := g.node.Saved()
	g.machine, g.base, g.done = m, s.Base, s.Base
	g.ahead = nil
	for _, x := range s.Entries {
		g.ahead = append(g.ahead, x.Data)
	}
}

// catchUp does what is committed, and was not done yet.
func (g *Group) catchUp() []Applied {
	g.note()
	// The node's commit may be behind its last entry, if a message told so: what is not there yet is done when it comes.
	count := min(g.node.Commit()-g.done, len(g.ahead))
	var list []Applied
	for _, data := range g.ahead[:count] {
		list = append(list, g.do(data))
	}
	clear(g.ahead[:count]) // what was done is not kept: it is in the machine
	g.ahead = g.ahead[count:]
	return list
}

// do lets the machine do the next entry. What is no command changes nothing, but it is an entry.
func (g *Group) do(data string) Applied {
	c, e := command.From(data)
	if e != api.OK {
		c = api.Command{Kind: api.CmdNone}
	}
	r := g.machine.Apply(c)
	g.done++
	return Applied{Index: g.done, Command: c, Reply: r.Reply, Data: r.Data}
}

// note follows the node's records. They alone tell what a call did to its log without that all of the log has to be asked for.
func (g *Group) note() {
	for _, r := range g.node.Records() {
		switch r.Kind {
		case api.RecEntry:
			g.ahead = append(g.ahead, r.Data)
		case api.RecCut:
			g.ahead = slices.Delete(g.ahead, r.Index-g.done-1, len(g.ahead))
		case api.RecBase:
			g.takeBase(r)
		}
		g.records = append(g.records, r)
	}
}

// takeBase takes note of a base. One that is behind all that is done came by a letter.
func (g *Group) takeBase(r api.Record) {
	g.base = r.Index
	if r.Index <= g.done {
		return
	}
	m, e := machineOf(g.group, g.groups, r.Data)
	if e != api.OK {
		m, _ = newMachine(g.group, g.groups) // as all other nodes do whom the same letter comes to
	}
	g.beginWith(m)
}
