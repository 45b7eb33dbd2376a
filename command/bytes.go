package command

import (
	"rookery/api"
	"rookery/bits"
	"strings"
)

// put is a mark, and fields behind it.
func put(mark string, fields ...any) (s string, e api.Errno) {
	defer func() {
		if recover() != nil {
			s, e = "", api.ErrArg
		}
	}()
	w := &writer{}
	w.out.WriteString(mark)
	walk(w, fields...)
	return w.out.String(), api.OK
}

// take reads fields, of bytes that have a mark and them, and nothing else. Where it is refused some of them may be read.
func take(s, mark string, fields ...any) (e api.Errno) {
	defer func() {
		if recover() != nil {
			e = api.ErrCommand
		}
	}()
	rest, ok := strings.CutPrefix(s, mark)
	if !ok {
		panic("another mark")
	}
	r := &reader{rest}
	walk(r, fields...)
	if r.rest != "" {
		panic("bytes behind the last field")
	}
	return api.OK
}

// writer puts fields behind one another. It reads what the pointers point at, and never writes to it.
type writer struct {
	out strings.Builder
}

func (w *writer) number(n *int, most int) {
	s, e := bits.PutVar(*n)
	if e != api.OK || *n > most {
		panic("a number that may not be")
	}
	w.out.WriteString(s)
}

func (w *writer) text(t *string) {
	size := len(*t)
	w.number(&size, api.MaxRecord)
	w.out.WriteString(*t)
}

// reader takes fields one behind the other.
type reader struct {
	rest string
}

// number: one in more bytes than it takes is refused by Var.
func (r *reader) number(n *int, most int) {
	v, size, e := bits.Var(r.rest)
	if e != api.OK || v > most {
		panic("no number, or one that may not be")
	}
	*n, r.rest = v, r.rest[size:]
}

// text: of any bytes, which the Text of package bits would refuse where they are no UTF-8.
func (r *reader) text(t *string) {
	size := 0
	r.number(&size, api.MaxRecord)
	if size > len(r.rest) {
		panic("a text beyond the end")
	}
	// A copy: whoever keeps a short text must not keep all the bytes that it stood in.
	*t, r.rest = strings.Clone(r.rest[:size]), r.rest[size:]
}
