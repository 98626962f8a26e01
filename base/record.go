package base

import (
	"handbill/api"
	"handbill/pack"
)

// Encode tells the record of a time's writes.
func Encode(at int, l []api.Write) ([]byte, api.Errno) {
	if !timeMay(at) {
		return nil, api.ErrRange
	}
	if !writesMay(l) {
		return nil, api.ErrForm
	}
	b := pack.Number(nil, at)
	b = pack.Number(b, len(l))
	for _, w := range l {
		b = appendWrite(b, w)
	}
	return b, api.OK
}

func timeMay(at int) bool { return at >= 1 && at <= api.MaxTime }

// writesMay tells whether writes may be a record's.
func writesMay(l []api.Write) bool {
	for i, w := range l {
		if i > 0 && w.Key <= l[i-1].Key || w.Key == "" || len(w.Key) > api.MaxKey {
			return false
		}
		if len(w.Value) > api.MaxValue || w.Gone && w.Value != "" {
			return false
		}
	}
	return len(l) <= api.MaxWrites
}

func appendWrite(b []byte, w api.Write) []byte {
	if w.Gone {
		return pack.Text(append(b, 1), w.Key)
	}
	return pack.Text(pack.Text(append(b, 0), w.Key), w.Value)
}

// Decode tells the record whose bytes b are.
func Decode(b []byte) (int, []api.Write, api.Errno) {
	r := pack.Read(b)
	at := r.Number()
	var l []api.Write
	for n := r.Number(); n > 0 && !r.Bad(); n-- {
		w, ok := readWrite(r)
		if !ok {
			return 0, nil, api.ErrForm
		}
		l = append(l, w)
	}
	if !r.Done() || !timeMay(at) || !writesMay(l) {
		return 0, nil, api.ErrForm
	}
	return at, l, api.OK
}

// readWrite reads a write, and tells whether its first byte was one that may be.
func readWrite(r *pack.Reader) (api.Write, bool) {
	gone := r.Byte()
	w := api.Write{Key: r.Text(), Gone: gone == 1}
	if !w.Gone {
		w.Value = r.Text()
	}
	return w, gone <= 1
}
