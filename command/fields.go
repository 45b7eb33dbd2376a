package command

import "rookery/api"

// way is one of the two ways that fields go: into bytes, and out of them. Both go over the same fields, so that what is put is read back. A field that may not be is given up by a panic, whatever it stands in.
type way interface {
	number(n *int, most int)
	text(t *string)
}

// walk goes over fields, told by pointers to them.
func walk(w way, fields ...any) {
	for _, f := range fields {
		switch x := f.(type) {
		case *int:
			w.number(x, api.MaxIndex)
		case *api.Errno:
			n := int(*x)
			w.number(&n, api.MaxIndex)
			*x = api.Errno(n)
		case *bool:
			walkTruth(w, x)
		case *string:
			w.text(x)
		case *[]api.Entry:
			walkList(w, x, api.MaxBatch)
		case *[]api.Post:
			walkList(w, x, api.MaxPage)
		default:
			walk(w, fieldsOf(f)...)
		}
	}
}

// fieldsOf are the fields of a struct, in the order in which they stand in bytes.
func fieldsOf(f any) []any {
	switch x := f.(type) {
	case *api.Id:
		return []any{&x.Session, &x.Seq}
	case *api.Op:
		return []any{&x.Kind, &x.Space, &x.Channel, &x.User, &x.Text, &x.ToSpace, &x.To, &x.From, &x.Most}
	case *api.Command:
		return []any{&x.Kind, &x.Id, &x.Tx, &x.Plan, &x.Slot, &x.Epoch, &x.Group, &x.Ok, &x.Err, &x.Op, &x.Data}
	case *api.Entry:
		return []any{&x.Term, &x.Data}
	case *api.Message:
		return []any{&x.Kind, &x.Group, &x.From, &x.To, &x.Term, &x.Index, &x.At, &x.Commit, &x.Ok, &x.Entries, &x.Data}
	case *api.Post:
		return []any{&x.User, &x.Text}
	case *api.Reply:
		return []any{&x.Err, &x.At, &x.Posts}
	}
	panic("a field of another type") // left out in silence, it would be lost
}

// walkTruth goes over a truth, which is a number of at most 1.
func walkTruth(w way, truth *bool) {
	n := 0
	if *truth {
		n = 1
	}
	w.number(&n, 1)
	*truth = n == 1
}

// walkList goes over how many items a list has, and over them. Only a list that is read grows: one that is put has as many as it tells, and is not written to.
func walkList[T any](w way, list *[]T, most int) {
	count := len(*list)
	w.number(&count, most)
	if count > len(*list) {
		*list = make([]T, count)
	}
	for i := range *list {
		walk(w, &(*list)[i])
	}
}
