package model

import (
	"rookery/api"
	"rookery/bits"
)

// maxFrom is the greatest number from which on posts may be asked for.
const maxFrom = 1<<31 - 1

// Check tells whether an op may be.
func Check(o api.Op) api.Errno {
	if !mayBe(o) {
		return api.ErrArg
	}
	return api.OK
}

// mayBe is whether an op has the fields that its kind asks for, and no others: it is then the same as an op that is put together of these alone.
func mayBe(o api.Op) bool {
	switch o.Kind {
	case api.OpMake:
		return areLabels(o.Space, o.Channel) &&
			o == api.Op{Kind: o.Kind, Space: o.Space, Channel: o.Channel}
	case api.OpJoin:
		return areLabels(o.Space, o.Channel, o.User) &&
			o == api.Op{Kind: o.Kind, Space: o.Space, Channel: o.Channel, User: o.User}
	case api.OpPost:
		return areLabels(o.Space, o.Channel, o.User) && isPostable(o.Text) &&
			o == api.Op{Kind: o.Kind, Space: o.Space, Channel: o.Channel, User: o.User, Text: o.Text}
	case api.OpRead:
		return areLabels(o.Space, o.Channel) && isWithin(o.From, maxFrom) && isWithin(o.Most, api.MaxPage) &&
			o == api.Op{Kind: o.Kind, Space: o.Space, Channel: o.Channel, From: o.From, Most: o.Most}
	case api.OpMove:
		return areLabels(o.Space, o.Channel, o.ToSpace, o.To) &&
			o == api.Op{Kind: o.Kind, Space: o.Space, Channel: o.Channel, ToSpace: o.ToSpace, To: o.To}
	case api.OpClose:
		return areLabels(o.Space) && o == api.Op{Kind: o.Kind, Space: o.Space}
	case api.OpOff:
		return areLabels(o.User) && o == api.Op{Kind: o.Kind, User: o.User}
	}
	return false
}

// areLabels is whether all of these are labels.
func areLabels(texts ...string) bool {
	for _, t := range texts {
		if !isLabel(t) {
			return false
		}
	}
	return true
}

// isLabel is whether a workspace, a channel or a user may be called so.
func isLabel(t string) bool {
	if len(t) < 1 || len(t) > api.MaxLabel {
		return false
	}
	for i := range len(t) {
		if !isOfLabel(t[i]) {
			return false
		}
	}
	return true
}

// isOfLabel is whether a byte may stand in a label.
func isOfLabel(b byte) bool {
	return b >= 'a' && b <= 'z' || b >= '0' && b <= '9' || b == '-'
}

// isPostable is whether a text may be posted. Its length is asked first: so what is far too long is not gone over.
func isPostable(t string) bool { return len(t) <= api.MaxText && bits.Valid(t) }

// isWithin is whether a number is one from 0 up to another one.
func isWithin(n, most int) bool { return n >= 0 && n <= most }
