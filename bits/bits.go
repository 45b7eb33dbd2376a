// Package bits is layer 1: see shared/doc/01-bits.md.
package bits

import (
	"rookery/api"
	"strings"
)

// mostVar is how many bytes a number takes at most: 9 times 7 bits are the 63 bits of the greatest one.
const mostVar = 9

// mostFixed is how many bytes a number of a fixed size has at most.
const mostFixed = 8

// PutVar is a number as bytes, seven bits of it each.
func PutVar(n int) (string, api.Errno) {
	if n < 0 {
		return "", api.ErrArg
	}
	var out []byte
	for n >= 128 {
		out = append(out, byte(n%128+128))
		n /= 128
	}
	return string(append(out, byte(n))), api.OK
}

// Var is the number that bytes begin with, and how many bytes.
func Var(s string) (n, bytes int, e api.Errno) {
	sum := 0
	for i := range min(len(s), mostVar) {
		b := int(s[i])
		sum |= (b % 128) << (7 * i)
		if b >= 128 {
			continue
		}
		if b == 0 && i > 0 {
			return 0, 0, api.ErrBits // the same number has fewer bytes, and only those may stand for it
		}
		return sum, i + 1, api.OK
	}
	if len(s) < mostVar {
		return 0, 0, api.ErrShort
	}
	return 0, 0, api.ErrBits
}

// PutFixed is a number as so many bytes.
func PutFixed(n, bytes int) (string, api.Errno) {
	// A shift by all 64 bits leaves 0, so that 8 bytes take every number from 0 on.
	if bytes < 1 || bytes > mostFixed || n < 0 || n>>(8*bytes) != 0 {
		return "", api.ErrArg
	}
	out := make([]byte, bytes)
	for i := range bytes {
		out[i] = byte(n >> (8 * i))
	}
	return string(out), api.OK
}

// Fixed is the number of the first so many bytes.
func Fixed(s string, bytes int) (int, api.Errno) {
	if bytes < 1 || bytes > mostFixed {
		return 0, api.ErrArg
	}
	if len(s) < bytes {
		return 0, api.ErrShort
	}
	n := 0
	for i := range bytes {
		n |= int(s[i]) << (8 * i)
	}
	if n < 0 {
		return 0, api.ErrBits // the 64th bit is set: 2^63 or more
	}
	return n, api.OK
}

// Valid tells whether bytes are a text in UTF-8.
func Valid(s string) bool {
	var c char
	for i := range len(s) {
		var ok bool
		if c.left == 0 {
			c, ok = begin(s[i])
		} else {
			c, ok = c.next(s[i])
		}
		if !ok {
			return false
		}
	}
	return c.left == 0
}

// PutText is a text as bytes.
func PutText(t string) (string, api.Errno) {
	if !Valid(t) {
		return "", api.ErrText
	}
	size, _ := PutVar(len(t)) // a length is never below 0, so it can't be refused
	return size + t, api.OK
}

// Text is the text that bytes begin with, of at most so many bytes, and how many bytes.
func Text(s string, most int) (t string, bytes int, e api.Errno) {
	if most < 0 {
		return "", 0, api.ErrArg
	}
	size, head, e := Var(s)
	if e != api.OK {
		return "", 0, e
	}
	if size > most {
		return "", 0, api.ErrLong
	}
	if size > len(s)-head {
		return "", 0, api.ErrShort
	}
	t = s[head : head+size]
	if !Valid(t) {
		return "", 0, api.ErrText
	}
	// A copy: whoever keeps a short text must not keep all the bytes that it stood in.
	return strings.Clone(t), head + size, api.OK
}
