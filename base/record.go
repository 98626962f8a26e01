package base

import (
	"handbill/api"
	"handbill/num"
)

// Encode tells the record of a time's writes.
func Encode(at int, l []api.Write) ([]byte, api.Errno) {
	if !timeMay(at) {
		return nil, api.ErrRange
	}
	if !writesMay(l) {
		return nil, api.ErrForm
	}
	b := appendNumber(nil, at)
	b = appendNumber(b, len(l))
	for _, w := range l {
		b = appendWrite(b, w)
	}
	return b, api.OK
}

func timeMay(at int) bool { return at >= 1 && at <= api.MaxTime }

// writesMay tells whether writes may be a record's.
func writesMay(l []api.Write) bool {
	for i, w := range l {
		if i > 0 && w.Key <= l[i-1].Key || w.Key == "" || len(w.Key) > api.MaxKey {
			return false
		}
		if len(w.Value) > api.MaxValue || w.Gone && w.Value != "" {
			return false
		}
	}
	return len(l) <= api.MaxWrites
}

func appendWrite(b []byte, w api.Write) []byte {
	if w.Gone {
		return appendText(append(b, 1), w.Key)
	}
	return appendText(appendText(append(b, 0), w.Key), w.Value)
}

func appendText(b []byte, s string) []byte {
	return append(appendNumber(b, len(s)), s...)
}

func appendNumber(b []byte, n int) []byte {
	v, _ := num.Var(n)
	return append(b, v...)
}

// Decode tells the record whose bytes b are.
func Decode(b []byte) (int, []api.Write, api.Errno) {
	r := reader{b: b}
	at := r.number()
	var l []api.Write
	for n := r.number(); n > 0 && !r.bad; n-- {
		l = append(l, r.write())
	}
	if r.bad || r.at != len(b) || !timeMay(at) || !writesMay(l) {
		return 0, nil, api.ErrForm
	}
	return at, l, api.OK
}

// reader reads a record from the front; bad says that something was none.
type reader struct {
	b   []byte
	at  int
	bad bool
}

func (r *reader) number() int {
	n, at, e := num.ReadVar(r.b, r.at)
	if e != api.OK {
		r.bad = true
		return 0
	}
	r.at = at
	return n
}

func (r *reader) text() string {
	n := r.number()
	if n > len(r.b)-r.at {
		r.bad = true
		return ""
	}
	r.at += n
	return string(r.b[r.at-n : r.at])
}

func (r *reader) write() api.Write {
	gone, e := num.Get(r.b, r.at, 1)
	if e != api.OK || gone > 1 {
		r.bad = true
		return api.Write{}
	}
	r.at++
	w := api.Write{Key: r.text(), Gone: gone == 1}
	if !w.Gone {
		w.Value = r.text()
	}
	return w
}
