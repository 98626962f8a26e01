package pack_test

import (
	"testing"

	"handbill/pack"
)

func TestReader(t *testing.T) {
	b := pack.Text(append(pack.Number(nil, 300), 7), "text")
	if string(b) != "\xac\x02\x07\x04text" {
		t.Errorf("%q", b)
	}
	r := pack.Read(b)
	if n, c := r.Number(), r.Byte(); n != 300 || c != 7 || r.Done() {
		t.Errorf("%d, %d", n, c)
	}
	if s := r.Text(); s != "text" || !r.Done() || r.Bad() {
		t.Errorf("%q", s)
	}
	if c := r.Byte(); c != 0 || !r.Bad() || r.Done() {
		t.Errorf("behind the end: %d", c)
	}
	for n := range b {
		r := pack.Read(b[:n])
		r.Number()
		r.Byte()
		if s := r.Text(); s != "" || !r.Bad() || r.Done() {
			t.Errorf("cut at %d: %q", n, s)
		}
	}
	r = pack.Read([]byte{128, 0, 1})
	if r.Number() != 0 || !r.Bad() || r.Number() != 0 || r.Byte() != 0 || r.Text() != "" {
		t.Error("behind what is missing")
	}
}
