package frame_test

import (
	"bytes"
	"hash/crc32"
	"math/rand"
	"slices"
	"testing"

	"handbill/api"
	"handbill/frame"
)

// framed writes a frame by other means than Put.
func framed(p []byte) []byte {
	head := []byte{byte(len(p) >> 8), byte(len(p))}
	sum := crc32.ChecksumIEEE(append(bytes.Clone(head), p...))
	return append(append(head, byte(sum>>24), byte(sum>>16), byte(sum>>8), byte(sum)), p...)
}

func same(a, b [][]byte) bool { return slices.EqualFunc(a, b, bytes.Equal) }

func TestPut(t *testing.T) {
	for _, p := range [][]byte{nil, {0}, {1}, []byte("abc"), bytes.Repeat([]byte{7}, 255), bytes.Repeat([]byte{8}, 256), bytes.Repeat([]byte{9}, api.MaxFrame)} {
		b, e := frame.Put(p)
		if e != api.OK || !bytes.Equal(b, framed(p)) {
			t.Errorf("P9.1: Put of %d bytes: %d", len(p), e)
		}
		if l, end := frame.All(b); len(l) != 1 || !bytes.Equal(l[0], p) || end != len(b) {
			t.Errorf("P9.3: All of Put of %d bytes: %d, %d", len(p), len(l), end)
		}
	}
	for _, n := range []int{api.MaxFrame + 1, 65536, 1 << 20} {
		if b, e := frame.Put(make([]byte, n)); e != api.ErrLong || len(b) > 0 {
			t.Errorf("P9.1: Put of %d bytes: %d", n, e)
		}
	}
	one, _ := frame.Put([]byte{1})
	if l, end := frame.All(append(one, 0)); len(l) != 1 || end != 7 {
		t.Errorf("P9.1: %v, %d", l, end)
	}
}

func TestScan(t *testing.T) {
	recs := [][]byte{[]byte("one"), nil, []byte("three"), bytes.Repeat([]byte("x"), 300)}
	var b []byte
	var ends []int
	for _, p := range recs {
		b = append(b, framed(p)...)
		ends = append(ends, len(b))
	}
	s := frame.Scan(b)
	for range 2 {
		i := 0
		for at, p := range s {
			if at != ends[i] || !bytes.Equal(p, recs[i]) {
				t.Errorf("P9.1: record %d: %d, %q", i, at, p)
			}
			i++
		}
		if i != 4 {
			t.Errorf("P9.1: %d records", i)
		}
	}
	n := 0
	for range s {
		if n++; n == 2 {
			break
		}
	}
	if n != 2 {
		t.Errorf("P9.1: left early: %d", n)
	}
	// However it is torn, the frames that are whole are told.
	for cut := range len(b) + 1 {
		whole := 0
		for whole < 4 && ends[whole] <= cut {
			whole++
		}
		end := 0
		if whole > 0 {
			end = ends[whole-1]
		}
		if l, at := frame.All(b[:cut]); !same(l, recs[:whole]) || at != end {
			t.Errorf("P9.3: cut at %d: %d records, %d", cut, len(l), at)
		}
	}
	for at := range b {
		turned := bytes.Clone(b)
		turned[at] ^= 1 << (at % 8)
		whole := 0
		for ends[whole] <= at {
			whole++
		}
		if l, _ := frame.All(turned); !same(l, recs[:whole]) {
			t.Errorf("P9.1: turned at %d: %d records", at, len(l))
		}
	}
}

func TestWhatIsNone(t *testing.T) {
	for name, b := range map[string][]byte{"nothing": nil, "a byte": {0}, "five": make([]byte, 5), "a wrong sum": make([]byte, 6), "ends too early": framed([]byte("abc"))[:8],
		"too long": framed(make([]byte, api.MaxFrame+1)), "much too long": framed(make([]byte, 65535))} {
		if l, end := frame.All(b); len(l) > 0 || end != 0 {
			t.Errorf("P9.1: %s: %d records, %d", name, len(l), end)
		}
		s := frame.Scan(b)
		if s == nil {
			t.Fatalf("P9.1: %s: nil", name)
		}
		for range s {
			t.Errorf("P9.1: %s: a record", name)
		}
	}
	// What stands behind one that is none is not told.
	b := append(framed([]byte("a")), 9)
	b = append(b, framed([]byte("b"))...)
	if l, end := frame.All(b); len(l) != 1 || end != 7 {
		t.Errorf("P9.1: %q, %d", l, end)
	}
	// The sum is of the length, too: of the record alone it does not fit.
	sum := crc32.ChecksumIEEE([]byte("abc"))
	b = append([]byte{0, 3, byte(sum >> 24), byte(sum >> 16), byte(sum >> 8), byte(sum)}, "abc"...)
	if l, _ := frame.All(b); len(l) > 0 {
		t.Error("P9.1: the sum of the record alone")
	}
	// What lies behind the length is not read.
	whole := framed([]byte("abc"))
	if l, _ := frame.All(whole[:8]); len(l) > 0 {
		t.Error("P0.4: behind the length")
	}
}

func TestNewMemory(t *testing.T) {
	in := []byte("abc")
	b, _ := frame.Put(in)
	if string(in) != "abc" {
		t.Error("P9.2: Put changes what is handed in")
	}
	in[0] = '?'
	b = append(b, b...)
	kept := bytes.Clone(b)
	s := frame.Scan(b)
	x, _ := frame.All(b)
	y, _ := frame.All(b)
	for i := range x {
		x[i][0] = '?'
		_ = append(x[i], "???"...)
	}
	_ = append(x[:1], nil)
	for _, p := range s {
		p[0] = '?'
		_ = append(p, "???"...)
	}
	if !bytes.Equal(b, kept) || !same(y, [][]byte{[]byte("abc"), []byte("abc")}) {
		t.Errorf("P9.2: answers share memory: %q, %q", b, y)
	}
	clear(b)
	n := 0
	for _, p := range s {
		n++
		if string(p) != "abc" {
			t.Errorf("P9.2: Scan keeps what is handed in: %q", p)
		}
	}
	if n != 2 {
		t.Errorf("P9.2: Scan keeps what is handed in: %d records", n)
	}
}

func TestRandom(t *testing.T) {
	r := rand.New(rand.NewSource(12))
	for range 300 {
		var b []byte
		var recs [][]byte
		for range r.Intn(5) {
			p := make([]byte, r.Intn(40))
			r.Read(p)
			f, _ := frame.Put(p)
			recs = append(recs, p)
			b = append(b, f...)
		}
		if l, end := frame.All(b); !same(l, recs) || end != len(b) {
			t.Fatalf("P9.3: %d of %d records, %d of %d bytes", len(l), len(recs), end, len(b))
		}
	}
}
