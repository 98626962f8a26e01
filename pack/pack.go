// Package pack: numbers and texts in few bytes, one behind the other.
package pack

import (
	"handbill/api"
	"handbill/num"
)

// Number writes a number behind b.
func Number(b []byte, n int) []byte {
	v, _ := num.Var(n)
	return append(b, v...)
}

// Text writes a text's length and the text behind b.
func Text(b []byte, s string) []byte {
	return append(Number(b, len(s)), s...)
}

// Reader reads bytes from the front. Once something is missing all that it tells is nothing.
type Reader struct {
	b   []byte
	at  int
	bad bool
}

// Read makes a reader of b.
func Read(b []byte) *Reader { return &Reader{b: b} }

// Number reads a number.
func (r *Reader) Number() int {
	n, at, e := num.ReadVar(r.b, r.at)
	if r.bad || e != api.OK {
		r.bad = true
		return 0
	}
	r.at = at
	return n
}

// Byte reads a byte.
func (r *Reader) Byte() byte {
	if r.bad || r.at == len(r.b) {
		r.bad = true
		return 0
	}
	r.at++
	return r.b[r.at-1]
}

// Text reads a text.
func (r *Reader) Text() string {
	n := r.Number()
	if n > len(r.b)-r.at {
		r.bad = true
		return ""
	}
	r.at += n
	return string(r.b[r.at-n : r.at])
}

// Bad tells whether something was missing.
func (r *Reader) Bad() bool { return r.bad }

// Done tells whether nothing was missing, and nothing is left.
func (r *Reader) Done() bool { return !r.bad && r.at == len(r.b) }
