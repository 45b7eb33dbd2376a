package group

import (
	"rookery/api"
	"rookery/meta"
	"rookery/shard"
)

// machine is what the nodes of a group have in common, whichever of the two kinds it is: what it makes of commands hangs on nothing but the commands.
type machine interface {
	Apply(c api.Command) shard.Result
	Bytes() (string, api.Errno)
}

// head is the meta group's machine, as one that answers like those of shards; its bytes are those of the one that it embeds.
type head struct{ *meta.Machine }

// Apply does a command; no other group is told anything by it.
func (h head) Apply(c api.Command) shard.Result { return shard.Result{Reply: h.Machine.Apply(c)} }

// newMachine is a group's machine without anything.
func newMachine(group, groups int) (machine, api.Errno) {
	if group == 0 {
		m, e := meta.New(groups)
		return head{m}, e
	}
	return shard.New(group, groups)
}

// machineOf is the machine that a base holds. An empty one is of a log that has no base yet.
func machineOf(group, groups int, data string) (machine, api.Errno) {
	if data == "" {
		return newMachine(group, groups)
	}
	if group == 0 {
		m, e := meta.From(data)
		return head{m}, e
	}
	return shard.From(data)
}
