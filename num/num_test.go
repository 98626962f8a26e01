package num_test

import (
	"bytes"
	"hash/crc32"
	"math"
	"math/rand"
	"strings"
	"testing"

	"handbill/api"
	"handbill/num"
)

func TestPutGet(t *testing.T) {
	for _, c := range []struct {
		n, width int
		want     []byte
	}{
		{258, 2, []byte{1, 2}}, {0, 1, []byte{0}}, {255, 1, []byte{255}}, {65535, 2, []byte{255, 255}},
		{0, 6, make([]byte, 6)}, {1<<48 - 1, 6, bytes.Repeat([]byte{255}, 6)}, {0x010203040506, 6, []byte{1, 2, 3, 4, 5, 6}},
		{5, 4, []byte{0, 0, 0, 5}}, {1<<40 - 1, 5, bytes.Repeat([]byte{255}, 5)}, {1<<24 - 1, 3, []byte{255, 255, 255}},
	} {
		b, e := num.Put(c.n, c.width)
		if e != api.OK || !bytes.Equal(b, c.want) {
			t.Errorf("P1.1: Put(%d, %d) = % x, %d", c.n, c.width, b, e)
		}
		if n, e := num.Get(b, 0, c.width); n != c.n || e != api.OK {
			t.Errorf("P1.1: Get up to the end of %d, %d: %d, %d", c.n, c.width, n, e)
		}
		for at := range 4 {
			l := append(bytes.Repeat([]byte{9}, at), b...)
			l = append(l, 77)
			if n, e := num.Get(l, at, c.width); n != c.n || e != api.OK {
				t.Errorf("P1.1, P1.5: Get at %d of %d, %d: %d, %d", at, c.n, c.width, n, e)
			}
		}
	}
}

func TestPutGetWrong(t *testing.T) {
	wrong := [][2]int{{0, 0}, {0, 7}, {0, 8}, {0, -1}, {-1, 2}, {256, 1}, {65536, 2}, {1 << 24, 3}, {1 << 32, 4}, {1 << 40, 5}, {1 << 48, 6},
		{math.MaxInt, 6}, {math.MinInt, 3}, {0, math.MinInt}, {0, math.MaxInt}, {-1, 0}}
	for _, c := range wrong {
		if b, e := num.Put(c[0], c[1]); len(b) > 0 || e != api.ErrRange {
			t.Errorf("P1.1: Put(%d, %d) = % x, %d", c[0], c[1], b, e)
		}
	}
	for _, c := range []struct {
		at, width int
		want      api.Errno
	}{
		{0, 4, api.ErrShort}, {3, 1, api.ErrShort}, {1, 3, api.ErrShort}, {3, 6, api.ErrShort}, {4, 1, api.ErrRange}, {-1, 1, api.ErrRange},
		{0, 0, api.ErrRange}, {0, 7, api.ErrRange}, {0, -1, api.ErrRange}, {math.MaxInt, 1, api.ErrRange}, {math.MinInt, 1, api.ErrRange},
		{0, math.MaxInt, api.ErrRange}, {3, 7, api.ErrRange}, {-1, 0, api.ErrRange},
	} {
		if n, e := num.Get([]byte{1, 2, 3}, c.at, c.width); n != 0 || e != c.want {
			t.Errorf("P1.1: Get(%d, %d) = %d, %d", c.at, c.width, n, e)
		}
	}
	// What lies behind the length is not read.
	if n, e := num.Get([]byte{1, 2, 3, 4}[:3], 2, 2); n != 0 || e != api.ErrShort {
		t.Errorf("P0.4: Get behind the length: %d, %d", n, e)
	}
	if n, e := num.Get(nil, 0, 1); n != 0 || e != api.ErrShort {
		t.Errorf("P1.1: Get of nothing: %d, %d", n, e)
	}
}

func TestVar(t *testing.T) {
	for n, want := range map[int][]byte{
		0: {0}, 1: {1}, 127: {127}, 128: {128, 1}, 300: {0xAC, 2}, 16383: {255, 127}, 16384: {128, 128, 1},
		1<<49 - 1: {255, 255, 255, 255, 255, 255, 127}, 1 << 49: {128, 128, 128, 128, 128, 128, 128, 1},
		1<<56 - 1: {255, 255, 255, 255, 255, 255, 255, 127},
	} {
		b, e := num.Var(n)
		if !bytes.Equal(b, want) || e != api.OK {
			t.Errorf("P1.2: Var(%d) = % x, %d", n, b, e)
		}
		if m, at, e := num.ReadVar(append(append([]byte{1}, b...), 200), 1); m != n || at != 1+len(b) || e != api.OK {
			t.Errorf("P1.2: ReadVar of %d: %d, %d, %d", n, m, at, e)
		}
	}
	for _, n := range []int{-1, 1 << 56, math.MinInt, math.MaxInt} {
		if b, e := num.Var(n); len(b) > 0 || e != api.ErrRange {
			t.Errorf("P1.2: Var(%d) = % x, %d", n, b, e)
		}
	}
	r := rand.New(rand.NewSource(1))
	for range 2000 {
		n := r.Intn(1<<56) >> r.Intn(56)
		b, _ := num.Var(n)
		if m, at, e := num.ReadVar(b, 0); m != n || at != len(b) || e != api.OK {
			t.Fatalf("P1.5: %d: %d, %d, %d", n, m, at, e)
		}
	}
}

func TestReadVarWrong(t *testing.T) {
	for i, c := range []struct {
		b    []byte
		at   int
		want api.Errno
	}{
		{nil, 0, api.ErrShort}, {nil, 1, api.ErrRange}, {nil, -1, api.ErrRange}, {[]byte{1}, 1, api.ErrShort}, {[]byte{1}, 2, api.ErrRange},
		{[]byte{1}, math.MaxInt, api.ErrRange}, {[]byte{1}, math.MinInt, api.ErrRange},
		{[]byte{128}, 0, api.ErrShort}, {[]byte{128, 0}, 0, api.ErrForm}, {[]byte{255, 128, 0}, 0, api.ErrForm},
		{bytes.Repeat([]byte{255}, 7), 0, api.ErrShort}, {bytes.Repeat([]byte{255}, 8), 0, api.ErrForm},
		{bytes.Repeat([]byte{128}, 8), 0, api.ErrForm}, {append(bytes.Repeat([]byte{255}, 8), 1), 0, api.ErrForm},
		{append(bytes.Repeat([]byte{255}, 7), 0), 0, api.ErrForm}, {append([]byte{1}, bytes.Repeat([]byte{255}, 8)...), 1, api.ErrForm},
		{[]byte{128, 1}[:1], 0, api.ErrShort},
	} {
		if n, at, e := num.ReadVar(c.b, c.at); n != 0 || at != 0 || e != c.want {
			t.Errorf("P1.2: case %d: %d, %d, %d", i, n, at, e)
		}
	}
}

func TestCrc(t *testing.T) {
	if num.Crc([]byte("123456789")) != 0xCBF43926 || num.Crc(nil) != 0 {
		t.Errorf("P1.3: %x, %x", num.Crc([]byte("123456789")), num.Crc(nil))
	}
	r := rand.New(rand.NewSource(2))
	for range 300 {
		b := make([]byte, r.Intn(300))
		r.Read(b)
		if num.Crc(b) != crc32.ChecksumIEEE(b) {
			t.Fatalf("P1.3: Crc of % x: %x", b, num.Crc(b))
		}
	}
}

func TestHex(t *testing.T) {
	if s := num.Hex([]byte{0, 255, 0x1A, 0x9f}); s != "00ff1a9f" {
		t.Errorf("P1.3: %s", s)
	}
	if num.Hex(nil) != "" {
		t.Error("P1.3: Hex of nothing")
	}
	for i := range 256 {
		b := []byte{byte(i)}
		if back, ok := num.Unhex(num.Hex(b)); !ok || !bytes.Equal(back, b) {
			t.Errorf("P1.3, P1.5: %d: % x, %v", i, back, ok)
		}
	}
	good := map[string]bool{"": true, "00ff": true, "a9": true}
	for _, s := range []string{"0", "0F", "F0", "AA", "0g", "g0", "00f", " 0", "0x", "/0", ":0", "`0", "é", "0\x00"} {
		good[s] = false
	}
	for s, want := range good {
		b, ok := num.Unhex(s)
		if ok != want || !ok && len(b) > 0 || ok && num.Hex(b) != s {
			t.Errorf("P1.3: Unhex(%q) = % x, %v", s, b, ok)
		}
	}
}

func TestDigits(t *testing.T) {
	for _, c := range []struct {
		n, width int
		want     string
	}{
		{7, 3, "007"}, {0, 1, "0"}, {9, 1, "9"}, {999, 3, "999"}, {0, 18, strings.Repeat("0", 18)}, {999999999999999999, 18, "999999999999999999"},
		{1000, 3, ""}, {10, 1, ""}, {-1, 3, ""}, {0, 0, ""}, {0, -1, ""}, {0, 19, ""}, {math.MaxInt, 18, ""}, {1e18, 18, ""}, {math.MinInt, 18, ""},
		{5, math.MinInt, ""}, {5, math.MaxInt, ""},
	} {
		if s, ok := num.Digits(c.n, c.width); s != c.want || ok != (c.want != "") {
			t.Errorf("P1.3: Digits(%d, %d) = %q, %v", c.n, c.width, s, ok)
		}
	}
	last := ""
	for n := range 1200 {
		s, ok := num.Digits(n, 4)
		if !ok || len(s) != 4 || s <= last {
			t.Fatalf("P1.5: %d: %q, %v behind %q", n, s, ok, last)
		}
		last = s
	}
}

func TestNewMemory(t *testing.T) {
	in := []byte{130, 1, 7, 9}
	kept := bytes.Clone(in)
	num.Get(in[:2], 0, 2)
	num.ReadVar(in[:2], 0)
	num.Crc(in[:2])
	num.Hex(in[:2])
	if !bytes.Equal(in, kept) {
		t.Errorf("P1.4: what was handed in: % x", in)
	}
	for name, f := range map[string]func() []byte{
		"Put":   func() []byte { b, _ := num.Put(300, 2); return b },
		"Var":   func() []byte { b, _ := num.Var(300); return b },
		"Unhex": func() []byte { b, _ := num.Unhex("012c"); return b },
	} {
		a, b := f(), f()
		want := bytes.Clone(b)
		for i := range a[:cap(a)] {
			a[:cap(a)][i] = 99
		}
		if !bytes.Equal(b, want) || !bytes.Equal(f(), want) {
			t.Errorf("P1.4: %s shares its memory", name)
		}
	}
}
