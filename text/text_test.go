package text_test

import (
	"encoding/json"
	"math"
	"math/rand"
	"strings"
	"testing"
	"unicode/utf8"

	"handbill/api"
	"handbill/text"
)

func TestValidAndCount(t *testing.T) {
	for s, want := range map[string]int{
		"": 0, "a": 1, "\x00\x7f": 2, "é": 1, "aé€😀": 4, "\u0080\u07ff\u0800\uffff\U00010000\U0010ffff": 6, "\ud7ff\ue000": 2,
		"\x80": -1, "\xc0\x80": -1, "\xc1\xbf": -1, "\xc2": -1, "\xc3\x28": -1, "a\xe9": -1, "\xe0\x80\x80": -1, "\xe0\x9f\xbf": -1,
		"\xed\xa0\x80": -1, "\xed\xbf\xbf": -1, "\xe2\x82": -1, "\xe2\x28\xa1": -1, "\xe2\x82\x28": -1, "\xf0\x80\x80\x80": -1,
		"\xf0\x8f\xbf\xbf": -1, "\xf4\x90\x80\x80": -1, "\xf5\x80\x80\x80": -1, "\xf8\x88\x80\x80\x80": -1, "\xff": -1, "\xfe": -1,
		"\xf0\x9f\x98": -1, "\xf0\x9f\x98a": -1, "a\xbf": -1,
	} {
		if n := text.Count(s); n != want {
			t.Errorf("P3.1: Count(%q) = %d, not %d", s, n, want)
		}
		if text.Valid(s) != (want >= 0) {
			t.Errorf("P3.1: Valid(%q) = %v", s, text.Valid(s))
		}
	}
	r := rand.New(rand.NewSource(4))
	for range 60000 {
		b := make([]byte, r.Intn(6))
		for i := range b {
			b[i] = []byte{'a', 0x80, 0xBF, 0xC0, 0xC2, 0xDF, 0xE0, 0xED, 0xEF, 0xF0, 0xF4, 0x90, 0x9F, 0xA0, byte(r.Intn(256))}[r.Intn(15)]
		}
		s := string(b)
		want := -1
		if utf8.ValidString(s) {
			want = utf8.RuneCountInString(s)
		}
		if text.Count(s) != want || text.Valid(s) != (want >= 0) {
			t.Fatalf("P3.1: %q: %d, %v", s, text.Count(s), text.Valid(s))
		}
	}
}

func TestSign(t *testing.T) {
	for c := -3; c <= 0x110010; c++ {
		s, ok := text.Sign(c)
		want := c >= 0 && utf8.ValidRune(rune(c))
		if ok != want || ok && s != string(rune(c)) || !ok && s != "" {
			t.Fatalf("P3.1: Sign(%x) = %q, %v", c, s, ok)
		}
	}
	for _, c := range []int{math.MaxInt, math.MinInt, 1 << 32, 1<<32 + 65, -1} {
		if s, ok := text.Sign(c); s != "" || ok {
			t.Errorf("P3.1: Sign(%d) = %q, %v", c, s, ok)
		}
	}
}

func TestQuote(t *testing.T) {
	for s, want := range map[string]string{
		"": `""`, "a\n\"": `"a\n\""`, "\\/": `"\\/"`, "\b\f\n\r\t": `"\b\f\n\r\t"`, "\x00\x01\x0b\x1f": `"\u0000\u0001\u000b\u001f"`,
		"\x7f <>&'": "\"\x7f <>&'\"", "é€😀\u2028": "\"é€😀\u2028\"", "\x1b": `"\u001b"`,
	} {
		if q, e := text.Quote(s); q != want || e != api.OK {
			t.Errorf("P3.2: Quote(%q) = %s, %d", s, q, e)
		}
	}
	for _, s := range []string{"\xff", "a\xc3", "\xed\xa0\x80", "\xc0\x80", "\n\x80"} {
		if q, e := text.Quote(s); q != "" || e != api.ErrForm {
			t.Errorf("P3.2: Quote(%q) = %s, %d", s, q, e)
		}
	}
}

func TestUnquote(t *testing.T) {
	for _, c := range []struct {
		b    string
		at   int
		want string
		end  int
	}{
		{`""`, 0, "", 2}, {`"\u00e9"`, 0, "é", 8}, {`xx"a"b`, 2, "a", 5}, {`"\"\\\/\b\f\n\r\t"`, 0, "\"\\/\b\f\n\r\t", 18},
		{`"\u00E9\u20aC\uABCD\uefef"`, 0, "é€\uabcd\uefef", 26}, {`"\ud83d\ude00"`, 0, "😀", 14}, {`"\uD800\uDC00\udbff\udfff"`, 0, "\U00010000\U0010ffff", 26},
		{"\"é€😀\x7f\"", 0, "é€😀\x7f", 12}, {`"\u0000"`, 0, "\x00", 8}, {`"a""b"`, 3, "b", 6}, {`"/"`, 0, "/", 3}, {`"\u00FF\uFa0F"`, 0, "\u00ff\ufa0f", 14}, {`"\u0022"`, 0, `"`, 8},
		{"\"a\"\xff", 0, "a", 3}, {"\xff\"a\"", 1, "a", 4}, {`"\ud7ff\ue000"`, 0, "\ud7ff\ue000", 14},
	} {
		if s, end, e := text.Unquote(c.b, c.at); s != c.want || end != c.end || e != api.OK {
			t.Errorf("P3.3: Unquote(%s, %d) = %q, %d, %d", c.b, c.at, s, end, e)
		}
	}
}

func TestUnquoteWrong(t *testing.T) {
	for _, c := range []struct {
		b    string
		at   int
		want api.Errno
	}{
		{`""`, -1, api.ErrRange}, {`""`, 3, api.ErrRange}, {"", 1, api.ErrRange}, {`""`, math.MaxInt, api.ErrRange}, {`""`, math.MinInt, api.ErrRange},
		{"", 0, api.ErrShort}, {`""`, 2, api.ErrShort}, {`"`, 0, api.ErrShort}, {`""`, 1, api.ErrShort}, {`"abc`, 0, api.ErrShort},
		{`"a\`, 0, api.ErrShort}, {`"\u`, 0, api.ErrShort}, {`"\u00e`, 0, api.ErrShort}, {`"\ud83d`, 0, api.ErrShort},
		{`"\ud83d\`, 0, api.ErrShort}, {`"\ud83d\u`, 0, api.ErrShort}, {`"\ud83d\ude0`, 0, api.ErrShort}, {`"\ud83d\u12`, 0, api.ErrShort},
		{"a", 0, api.ErrForm}, {`'a'`, 0, api.ErrForm}, {` ""`, 0, api.ErrForm}, {"\"\n\"", 0, api.ErrForm}, {"\"\x00", 0, api.ErrForm},
		{"\"\x1f\"", 0, api.ErrForm}, {`"\a"`, 0, api.ErrForm}, {`"\'"`, 0, api.ErrForm}, {`"\U0041"`, 0, api.ErrForm}, {"\"\\\n\"", 0, api.ErrForm}, {`"\0"`, 0, api.ErrForm},
		{`"\u00g0"`, 0, api.ErrForm}, {`"\u 123"`, 0, api.ErrForm}, {`"\u12"`, 0, api.ErrForm}, {`"\u-123"`, 0, api.ErrForm},
		{`"\ud83d"`, 0, api.ErrForm}, {`"\ud83dx"`, 0, api.ErrForm}, {`"\ud83d\n"`, 0, api.ErrForm}, {`"\ud83d\u0041"`, 0, api.ErrForm},
		{`"\ud83d\ud83d\ude00"`, 0, api.ErrForm}, {`"\ude00"`, 0, api.ErrForm}, {`"\ude00\ud83d"`, 0, api.ErrForm}, {`"\ud83d\ue000"`, 0, api.ErrForm},
		{`"\ud83d\udbff"`, 0, api.ErrForm}, {`"\udc00`, 0, api.ErrForm}, {`"\udfff"`, 0, api.ErrForm},
		{"\"\xff\"", 0, api.ErrForm}, {"\"\xc3", 0, api.ErrForm}, {"\"\xe2\x82", 0, api.ErrForm}, {"\"\xc0\x80\"", 0, api.ErrForm}, {"\"\xed\xa0\x80\"", 0, api.ErrForm},
		{"\"\xf0\x9f\x98\"", 0, api.ErrForm}, {"\"\xf4\x90\x80\x80\"", 0, api.ErrForm},
		{"\"\x01\\", 0, api.ErrForm}, {`"\x`, 0, api.ErrForm}, {"\"\\\xff\"", 0, api.ErrForm},
	} {
		if s, end, e := text.Unquote(c.b, c.at); s != "" || end != 0 || e != c.want {
			t.Errorf("P3.3: Unquote(%q, %d) = %q, %d, %d; not %d", c.b, c.at, s, end, e, c.want)
		}
	}
}

// TestCut cuts a string at each place: it always ends too early, but where a sign is cut.
func TestCut(t *testing.T) {
	for _, s := range []string{`"ab\n\u00e9\ud83d\ude00z"`, `"\\\"\/"`} {
		for n := range len(s) {
			if got, end, e := text.Unquote(s[:n], 0); got != "" || end != 0 || e != api.ErrShort {
				t.Errorf("P3.3: %s: %q, %d, %d", s[:n], got, end, e)
			}
		}
	}
}

func TestBack(t *testing.T) {
	r := rand.New(rand.NewSource(5))
	for range 3000 {
		var l []rune
		for range r.Intn(12) {
			c := rune([]int{r.Intn(32), r.Intn(128), r.Intn(0x800), r.Intn(0x10000), r.Intn(0x110000), '"', '\\'}[r.Intn(7)])
			if utf8.ValidRune(c) {
				l = append(l, c)
			}
		}
		s := string(l)
		q, e := text.Quote(s)
		if e != api.OK {
			t.Fatalf("P3.2: %q: %d", s, e)
		}
		if back, end, e := text.Unquote("x"+q+"y", 1); back != s || end != 1+len(q) || e != api.OK {
			t.Fatalf("P3.5: %q: %q, %d, %d", s, back, end, e)
		}
		var other string
		if json.Unmarshal([]byte(q), &other) != nil || other != s {
			t.Fatalf("P3.2: %q is read as %q", q, other)
		}
	}
	long := strings.Repeat("é\n", 50000)
	q, _ := text.Quote(long)
	if back, _, _ := text.Unquote(q, 0); back != long {
		t.Error("P3.5: a long text")
	}
}
