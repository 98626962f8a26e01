package date_test

import (
	"math"
	"math/rand"
	"strings"
	"testing"
	"time"

	"handbill/api"
	"handbill/date"
)

const last = 253402300799

func TestMake(t *testing.T) {
	for _, c := range []struct {
		l    [6]int
		want int
	}{
		{[6]int{1970, 1, 1, 0, 0, 0}, 0}, {[6]int{1994, 11, 6, 8, 49, 37}, 784111777}, {[6]int{9999, 12, 31, 23, 59, 59}, last},
		{[6]int{9999, 12, 31, 23, 59, 60}, last}, {[6]int{1970, 1, 1, 0, 0, 60}, 59}, {[6]int{1972, 2, 29, 0, 0, 0}, 68169600}, {[6]int{2000, 2, 29, 12, 0, 0}, 951825600},
		{[6]int{1970, 12, 31, 23, 59, 59}, 365*86400 - 1}, {[6]int{2400, 2, 29, 0, 0, 0}, 13574563200},
	} {
		if got, ok := date.Make(c.l[0], c.l[1], c.l[2], c.l[3], c.l[4], c.l[5]); got != c.want || !ok {
			t.Errorf("P5.1: Make%v = %d, %v; not %d", c.l, got, ok, c.want)
		}
	}
	good := [6]int{2001, 6, 15, 12, 30, 30}
	for i, l := range [6][]int{{1969, 10000, 0, -1}, {0, 13, -1}, {0, 31, -1}, {-1, 24}, {-1, 60}, {-1, 61}} {
		for _, v := range append(l, math.MaxInt, math.MinInt) {
			c := good
			c[i] = v
			if got, ok := date.Make(c[0], c[1], c[2], c[3], c[4], c[5]); got != 0 || ok {
				t.Errorf("P5.1: Make%v = %d, %v", c, got, ok)
			}
		}
	}
	for mo, days := range []int{31, 28, 31, 30, 31, 30, 31, 31, 30, 31, 30, 31} {
		if _, ok := date.Make(2001, mo+1, days, 0, 0, 0); !ok {
			t.Errorf("P5.1: the last day of month %d", mo+1)
		}
		if got, ok := date.Make(2001, mo+1, days+1, 0, 0, 0); ok || got != 0 {
			t.Errorf("P5.1: a day behind the last one of month %d", mo+1)
		}
	}
	for y, leap := range map[int]bool{1972: true, 1970: false, 2000: true, 2100: false, 2104: true, 2400: true, 9996: true, 9999: false} {
		if _, ok := date.Make(y, 2, 29, 0, 0, 0); ok != leap {
			t.Errorf("P5.1: February 29 of %d: %v", y, ok)
		}
	}
}

func TestPrint(t *testing.T) {
	for n, want := range map[int]string{
		0: "1970-01-01T00:00:00Z", 784111777: "1994-11-06T08:49:37Z", last: "9999-12-31T23:59:59Z", 951782399: "2000-02-28T23:59:59Z", 951782400: "2000-02-29T00:00:00Z",
	} {
		if s, e := date.Print(n); s != want || e != api.OK {
			t.Errorf("P5.1: Print(%d) = %s, %d", n, s, e)
		}
	}
	for _, n := range []int{-1, last + 1, math.MaxInt, math.MinInt, 1 << 40} {
		if s, e := date.Print(n); s != "" || e != api.ErrRange {
			t.Errorf("P5.1: Print(%d) = %s, %d", n, s, e)
		}
	}
}

// TestEachDay holds all days against the library's calendar.
func TestEachDay(t *testing.T) {
	for n := 0; n <= last/86400; n++ {
		at := n*86400 + n*7919%86400
		s, e := date.Print(at)
		if e != api.OK || n%97 == 0 && s != time.Unix(int64(at), 0).UTC().Format(time.RFC3339) {
			t.Fatalf("P5.1: Print(%d) = %s, %d", at, s, e)
		}
		if back, e := date.Net(s); back != at || e != api.OK {
			t.Fatalf("P5.5: %s: %d, %d; not %d", s, back, e, at)
		}
	}
}

func TestNet(t *testing.T) {
	for s, want := range map[string]int{
		"1994-11-06T08:49:37Z": 784111777, "1994-11-06t08:49:37z": 784111777, "1994-11-06T09:49:37+01:00": 784111777, "1994-11-06T00:19:37-08:30": 784111777,
		"1994-11-06T08:49:37.0Z": 784111777, "1994-11-06T08:49:37.999999999999999999999999z": 784111777, "1994-11-06T09:49:37.5+01:00": 784111777,
		"1970-01-01T00:00:00Z": 0, "1970-01-01T23:59:00+23:59": 0, "1970-01-01T00:00:60Z": 59, "9999-12-31T23:59:60Z": last, "1970-01-01T00:00:00-23:59": 86340,
		"1970-01-01T00:00:00-00:00": 0, "1970-01-01T00:01:00+00:01": 0,
	} {
		if got, e := date.Net(s); got != want || e != api.OK {
			t.Errorf("P5.2: Net(%s) = %d, %d; not %d", s, got, e, want)
		}
		if got, e := date.Any(s); got != want || e != api.OK {
			t.Errorf("P5.3: Any(%s) = %d, %d", s, got, e)
		}
	}
	for s, want := range map[string]api.Errno{
		"": api.ErrForm, "1994-11-06": api.ErrForm, "1994-11-06T08:49:37": api.ErrForm, "1994-11-06T08:49:37ZZ": api.ErrForm, " 1994-11-06T08:49:37Z": api.ErrForm, "1994-11-06T08:49:37Z ": api.ErrForm,
		"1994-11-06 08:49:37Z": api.ErrForm, "94-11-06T08:49:37Z": api.ErrForm, "1994-1-06T08:49:37Z": api.ErrForm, "1994/11/06T08:49:37Z": api.ErrForm, "1994-11-06T08:49Z": api.ErrForm,
		"1994-11-06T08:49:37.Z": api.ErrForm, "1994-11-06T08:49:37,5Z": api.ErrForm, "1994-11-06T08:49:37+0100": api.ErrForm, "1994-11-06T08:49:37+01": api.ErrForm, "1994-11-06T08:49:37+24:00": api.ErrForm,
		"1994-11-06T08:49:37+23:60": api.ErrForm, "1994-11-06T08:49:37-99:00": api.ErrForm, "1994-11-06T08:49:37 01:00": api.ErrForm, "1994-11-06T8:49:37Z": api.ErrForm, "11994-11-06T08:49:37Z": api.ErrForm,
		"1994-13-06T08:49:37X": api.ErrForm, "1994-11-0aT08:49:37Z": api.ErrForm, "-994-11-06T08:49:37Z": api.ErrForm, "1994-11-06T08:49:37GMT": api.ErrForm, "1994-11-06T08:49:37\x00": api.ErrForm,
		"1994-13-06T08:49:37+24:00": api.ErrForm, "1994-11-06T08:49:37.5": api.ErrForm,
		"1969-12-31T23:59:59Z": api.ErrRange, "1969-12-31T23:59:59-01:00": api.ErrRange, "0000-01-01T00:00:00Z": api.ErrRange, "1994-13-06T08:49:37Z": api.ErrRange, "1994-00-06T08:49:37Z": api.ErrRange,
		"1994-02-29T08:49:37Z": api.ErrRange, "1994-11-31T08:49:37Z": api.ErrRange, "1994-11-00T08:49:37Z": api.ErrRange, "1994-11-06T24:00:00Z": api.ErrRange, "1994-11-06T08:60:00Z": api.ErrRange,
		"1994-11-06T08:49:61Z": api.ErrRange, "1970-01-01T00:00:00+00:01": api.ErrRange, "1970-01-01T23:58:59+23:59": api.ErrRange, "9999-12-31T23:59:59-00:01": api.ErrRange, "9999-12-31T23:59:00-00:01": api.ErrRange,
	} {
		if got, e := date.Net(s); got != 0 || e != want {
			t.Errorf("P5.2: Net(%q) = %d, %d; not %d", s, got, e, want)
		}
		if got, e := date.Any(s); got != 0 || e != want {
			t.Errorf("P5.3: Any(%q) = %d, %d; not %d", s, got, e, want)
		}
	}
}

func TestMail(t *testing.T) {
	for s, want := range map[string]int{
		"Sun, 06 Nov 1994 08:49:37 GMT": 784111777, "06 Nov 1994 08:49:37 GMT": 784111777, "6 Nov 94 08:49:37 UT": 784111777, "Mon, 6 Nov 1994 08:49:37 Z": 784111777,
		"6 Nov 1994 03:49:37 EST": 784111777, "6 Nov 1994 04:49:37 EDT": 784111777, "6 Nov 1994 02:49:37 CST": 784111777, "6 Nov 1994 03:49:37 CDT": 784111777,
		"6 Nov 1994 01:49:37 MST": 784111777, "6 Nov 1994 02:49:37 MDT": 784111777, "6 Nov 1994 00:49:37 PST": 784111777, "6 Nov 1994 01:49:37 PDT": 784111777,
		"6 Nov 1994 09:49:37 +0100": 784111777, "6 Nov 1994 00:19:37 -0830": 784111777, "6 Nov 1994 08:49 GMT": 784111740, "01 Jan 70 00:00 GMT": 0, "1 Jan 1970 23:59 +2359": 0,
		"31 Dec 9999 23:59:60 GMT": last, "1 Jan 00 00:00 GMT": 946684800, "1 Jan 68 00:00 GMT": 3092601600, "31 Dec 99 00:00 GMT": 946598400, "29 Feb 1972 00:00:00 Z": 68169600,
	} {
		if got, e := date.Mail(s); got != want || e != api.OK {
			t.Errorf("P5.3: Mail(%s) = %d, %d; not %d", s, got, e, want)
		}
		if got, e := date.Any(s); got != want || e != api.OK {
			t.Errorf("P5.3: Any(%s) = %d, %d", s, got, e)
		}
	}
	for i, name := range strings.Fields("Mon Tue Wed Thu Fri Sat Sun") {
		if got, e := date.Mail(name + ", 1 Jan 1970 00:00:07 GMT"); got != 7 || e != api.OK {
			t.Errorf("P5.3: weekday %d: %d, %d", i, got, e)
		}
	}
	for i, name := range strings.Fields("Jan Feb Mar Apr May Jun Jul Aug Sep Oct Nov Dec") {
		want, _ := date.Make(2001, i+1, 3, 0, 0, 0)
		if got, e := date.Mail("3 " + name + " 2001 00:00 GMT"); got != want || e != api.OK {
			t.Errorf("P5.3: month %d: %d, %d", i, got, e)
		}
	}
}

func TestMailWrong(t *testing.T) {
	for s, want := range map[string]api.Errno{
		"": api.ErrForm, "S": api.ErrForm, "Sun": api.ErrForm, "Sun,": api.ErrForm, "Sun, ": api.ErrForm, "Sun 06 Nov 1994 08:49:37 GMT": api.ErrForm, "Sun,06 Nov 1994 08:49:37 GMT": api.ErrForm, "Sun,  06 Nov 1994 08:49:37 GMT": api.ErrForm,
		"sun, 06 Nov 1994 08:49:37 GMT": api.ErrForm, "Sunday, 06 Nov 1994 08:49:37 GMT": api.ErrForm, "006 Nov 1994 08:49:37 GMT": api.ErrForm, "6  Nov 1994 08:49:37 GMT": api.ErrForm, "6 nov 1994 08:49:37 GMT": api.ErrForm,
		"6 November 1994 08:49:37 GMT": api.ErrForm, "6 Nov 994 08:49:37 GMT": api.ErrForm, "6 Nov 19944 08:49:37 GMT": api.ErrForm, "6 Nov 4 08:49:37 GMT": api.ErrForm, "6 Nov 1994 8:49:37 GMT": api.ErrForm, "6 Nov 1994 08:49:37": api.ErrForm,
		"6 Nov 1994 08:49:37 ": api.ErrForm, "6 Nov 1994 08:49:37GMT": api.ErrForm, "6 Nov 1994 08:49:37  GMT": api.ErrForm, "6 Nov 1994 08:49:37 gmt": api.ErrForm, "6 Nov 1994 08:49:37 GMT ": api.ErrForm, "6 Nov 1994 08:49:37 UTC": api.ErrForm,
		"6 Nov 1994 08:49:37 A": api.ErrForm, "6 Nov 1994 08:49:37 +01:00": api.ErrForm, "6 Nov 1994 08:49:37 +100": api.ErrForm, "6 Nov 1994 08:49:37 +2400": api.ErrForm, "6 Nov 1994 08:49:37 +0060": api.ErrForm, "6 Nov 1994 08:49:37 -9900": api.ErrForm,
		"6 Nov 1994 08:49: GMT": api.ErrForm, "6 Nov 1994 08 GMT": api.ErrForm, "6 Nov 1994 08:49:37.5 GMT": api.ErrForm, " 6 Nov 1994 08:49:37 GMT": api.ErrForm, "6-Nov-1994 08:49:37 GMT": api.ErrForm, "6 Nov 1994 08:49:37 0100": api.ErrForm,
		"32 Jan 1994 08:49:37 XYZ": api.ErrForm, "Sun, 06 Nov 1994 08:49:37 +010": api.ErrForm, "6 onN 1994 08:49:37 GMT": api.ErrForm, "unM, 6 Nov 1994 08:49:37 GMT": api.ErrForm,
		"32 Jan 1994 08:49:37 GMT": api.ErrRange, "0 Jan 1994 08:49:37 GMT": api.ErrRange, "29 Feb 1994 08:49:37 GMT": api.ErrRange, "31 Dec 69 23:59 GMT": api.ErrRange, "31 Dec 69 23:59 EST": api.ErrRange, "6 Nov 1994 24:00 GMT": api.ErrRange,
		"6 Nov 1994 08:60 GMT": api.ErrRange, "6 Nov 1994 08:49:61 GMT": api.ErrRange, "1 Jan 1970 00:00 +0001": api.ErrRange, "31 Dec 9999 23:59:59 -0001": api.ErrRange, "31 Dec 9999 23:59:59 EST": api.ErrRange, "6 Nov 0000 00:00 GMT": api.ErrRange,
	} {
		if got, e := date.Mail(s); got != 0 || e != want {
			t.Errorf("P5.3: Mail(%q) = %d, %d; not %d", s, got, e, want)
		}
		if got, e := date.Any(s); got != 0 || e != want {
			t.Errorf("P5.3: Any(%q) = %d, %d; not %d", s, got, e, want)
		}
	}
}

// TestCut cuts times, and turns bytes of them: nothing panics, and what is read is a second of those years.
func TestCut(t *testing.T) {
	r := rand.New(rand.NewSource(8))
	for _, s := range []string{"1994-11-06T09:49:37.5+01:00", "Sun, 06 Nov 1994 08:49:37 +0100", "6 Nov 94 08:49 EST"} {
		for n := range len(s) {
			for _, f := range []func(string) (int, api.Errno){date.Net, date.Mail, date.Any} {
				if got, e := f(s[:n]); got != 0 || e != api.ErrForm {
					t.Errorf("P5.2, P5.3: %q: %d, %d", s[:n], got, e)
				}
			}
		}
		for range 3000 {
			b := []byte(s)
			b[r.Intn(len(b))] = "0129:-+TZ ,.aé\x00"[r.Intn(16)]
			got, e := date.Any(string(b))
			if got < 0 || got > last || e != api.OK && got != 0 || e != api.OK && e != api.ErrForm && e != api.ErrRange {
				t.Fatalf("P5.3: %q: %d, %d", b, got, e)
			}
		}
	}
}
