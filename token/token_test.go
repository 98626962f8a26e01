package token_test

import (
	"hash/crc32"
	"math"
	"math/rand"
	"strings"
	"testing"

	"handbill/api"
	"handbill/num"
	"handbill/token"
)

// signed tells the text of bytes and their check sum, by other means than Print.
func signed(b string) string {
	sum := crc32.ChecksumIEEE([]byte(b))
	return num.Hex(append([]byte(b), byte(sum>>24), byte(sum>>16), byte(sum>>8), byte(sum)))
}

const great = "\x80\x80\x80\x80\x80\x20"

var long = strings.Repeat("k", 100)

func TestPrint(t *testing.T) {
	for want, x := range map[string]token.Token{
		"\x00\x00\x01u\x00": {User: "u"}, "\xac\x02\x00\x02u-\x00": {User: "u-", From: 300}, great + "\x00\x01u\x00": {User: "u", From: api.MaxTime}, "\x00\x01\x01u\x01k": {User: "u", To: 1, Key: "k"}, "\x05\x05\x01u\x02\xff\x00": {User: "u", From: 5, To: 5, Key: "\xff\x00"},
		great + great + "\x14" + strings.Repeat("z", 20) + "\x64" + long: {User: strings.Repeat("z", 20), From: api.MaxTime, To: api.MaxTime, Key: long},
	} {
		s, e := token.Print(x)
		if s != signed(want) || e != api.OK || !token.May(x) {
			t.Errorf("P22.1: Print(%+v) = %s, %d", x, s, e)
		}
		if back, e := token.Parse(signed(want)); back != x || e != api.OK {
			t.Errorf("P22.3: %+v is read as %+v, %d", x, back, e)
		}
	}
	if s, _ := token.Print(token.Token{User: "u"}); !strings.HasPrefix(s, "0000017500") || len(s) != 18 {
		t.Errorf("P22.1: %s", s)
	}
	for _, x := range []token.Token{
		{}, {User: "U"}, {User: "a/b"}, {User: strings.Repeat("z", 21)}, {User: "u", From: -1}, {User: "u", From: api.MaxTime + 1}, {User: "u", From: math.MaxInt}, {User: "u", From: math.MinInt}, {User: "u", Key: "k"}, {User: "u", From: 5, Key: "k"},
		{User: "u", From: 5, To: 4, Key: "k"}, {User: "u", From: 5, To: 5}, {User: "u", To: 1}, {User: "u", To: -1, Key: "k"}, {User: "u", To: -1}, {User: "u", To: api.MaxTime + 1, Key: "k"}, {User: "u", To: 5, Key: long + "k"}, {User: "u", From: -1, To: 5, Key: "k"},
		{User: "u", To: math.MinInt, Key: "k"}, {User: "u", To: math.MaxInt, Key: "k"},
	} {
		if s, e := token.Print(x); s != "" || e != api.ErrForm || token.May(x) {
			t.Errorf("P22.1: Print(%+v) = %s, %d", x, s, e)
		}
	}
}

func TestParseWrong(t *testing.T) {
	good := "\x05\x07\x01u\x01k"
	for i, s := range []string{
		"", "0", "x", "00", signed(""), signed("\x00"), signed("\x00\x00"), signed("\x00\x00\x01"), signed("\x00\x00\x01u"), signed("\x00\x00\x01u\x00\x00"), signed("\x00\x00\x00\x00"), signed("\x00\x00\x01U\x00"), signed("\x00\x00\x01u\x01k"), signed("\x00\x01\x01u\x00"),
		signed("\x05\x04\x01u\x01k"), signed("\x80\x00\x00\x01u\x00"), signed("\x00\x00\x81\x00u\x00"), signed("\x81\x80\x80\x80\x80\x20\x00\x01u\x00"), signed("\x00\x00\x02u\x00"), signed("\x00\x05\x01u\x65" + long + "k"), signed("\xff\xff\xff\xff\xff\xff\xff\xff\x00\x01u\x00"),
		signed("\x00\x00\xff\xff\xff\xff\xff\xff\xff\x7fu\x00"), strings.ToUpper(signed(good)), signed(good) + "0", signed(good) + "00", " " + signed(good), signed(good)[1:], num.Hex([]byte(good)), num.Hex([]byte(good + "\x00\x00\x00\x00")),
	} {
		if x, e := token.Parse(s); x != (token.Token{}) || e != api.ErrToken {
			t.Errorf("P22.1: case %d: %+v, %d", i, x, e)
		}
	}
	for n := range len(signed(good)) {
		if x, e := token.Parse(signed(good)[:n]); x != (token.Token{}) || e != api.ErrToken {
			t.Errorf("P22.1: cut at %d: %+v, %d", n, x, e)
		}
	}
}

// TestTurned turns each digit of tokens into each other one.
func TestTurned(t *testing.T) {
	r := rand.New(rand.NewSource(22))
	for range 60 {
		x := token.Token{User: "u" + strings.Repeat("z", r.Intn(20)), From: r.Intn(api.MaxTime+1) >> r.Intn(41)}
		if r.Intn(2) == 0 {
			x.To = min(api.MaxTime, x.From+1+r.Intn(1<<20))
			x.Key = strings.Repeat("e/", 1+r.Intn(50))
		}
		s, e := token.Print(x)
		if back, e2 := token.Parse(s); back != x || e != api.OK || e2 != api.OK {
			t.Fatalf("P22.3: %+v: %s, %d; %+v, %d", x, s, e, back, e2)
		}
		for i := range len(s) {
			for _, c := range []byte("0123456789abcdefAFg") {
				if s[i] == c {
					continue
				}
				b := []byte(s)
				b[i] = c
				if x, e := token.Parse(string(b)); x != (token.Token{}) || e != api.ErrToken {
					t.Fatalf("P22.3: %s turned at %d: %+v, %d", s, i, x, e)
				}
			}
		}
	}
}
