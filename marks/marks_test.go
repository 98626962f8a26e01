package marks_test

import (
	"math"
	"math/rand"
	"slices"
	"strconv"
	"strings"
	"testing"

	"handbill/api"
	"handbill/feed"
	"handbill/ingest"
	"handbill/marks"
	"handbill/subs"
	"handbill/txn"
	"handbill/vers"
)

func want(t *testing.T, what string, got, e api.Errno) {
	t.Helper()
	if got != e {
		t.Errorf("%s: %d, not %d", what, got, e)
	}
}

// begin tells a transaction that sees a feed x with entries of these times, to which u subscribes.
func begin(whens ...int) *txn.Txn {
	x := txn.Begin(vers.New[string](), 0)
	come(x, whens...)
	subs.Subscribe(x, "u", "x", "")
	return x
}

// come lets entries of these times come.
func come(x *txn.Txn, whens ...int) {
	f := feed.Feed{Title: "X"}
	old, _ := ingest.Feed(x, "x")
	for i, when := range whens {
		f.Entries = append(f.Entries, api.Entry{GUID: "g" + strconv.Itoa(old.N+i), When: when})
	}
	ingest.Into(x, "x", f, api.MaxItems)
}

// read tells of each entry whether u has read it.
func read(x *txn.Txn) string {
	s := ""
	for e := range ingest.Entries(x, "x") {
		if marks.IsRead(x, "u", "x", e) {
			s += "r"
		} else {
			s += "."
		}
	}
	return s
}

func reads(t *testing.T, what string, x *txn.Txn, want string) {
	t.Helper()
	if got := read(x); got != want || marks.Unread(x, "u", "x") != strings.Count(want, ".") {
		t.Errorf("%s: %s, %d unread; not %s", what, got, marks.Unread(x, "u", "x"), want)
	}
}

func rowIs(t *testing.T, x *txn.Txn, key, want string) {
	t.Helper()
	if got, _ := x.Get(key); got != want {
		t.Errorf("P18.1: the row %s: %s, not %s", key, got, want)
	}
}

func TestReadAndStar(t *testing.T) {
	x := begin(10, 20, 30)
	reads(t, "P18.2: at first", x, "...")
	want(t, "P18.1: Read", marks.Read(x, "u", "x", 1, true), api.OK)
	reads(t, "P18.1: Read", x, ".r.")
	rowIs(t, x, "r/u/x/000001", `{"read":1,"star":0}`)
	want(t, "P18.1: Star", marks.Star(x, "u", "x", 1, true), api.OK)
	rowIs(t, x, "r/u/x/000001", `{"read":1,"star":1}`)
	want(t, "P18.1: Read, off", marks.Read(x, "u", "x", 1, false), api.OK)
	rowIs(t, x, "r/u/x/000001", `{"read":2,"star":1}`)
	reads(t, "P18.1: Read, off", x, "...")
	want(t, "P18.1: Star, off", marks.Star(x, "u", "x", 1, false), api.OK)
	rowIs(t, x, "r/u/x/000001", `{"read":2,"star":0}`)
	want(t, "P18.1: Star alone", marks.Star(x, "u", "x", 2, true), api.OK)
	rowIs(t, x, "r/u/x/000002", `{"read":0,"star":1}`)
	if !marks.IsStar(x, "u", "x", 2) || marks.IsStar(x, "u", "x", 1) || marks.IsStar(x, "u", "x", 0) || marks.IsStar(x, "v", "x", 2) || marks.IsStar(x, "u", "y", 2) {
		t.Error("P18.2: IsStar")
	}
	reads(t, "P18.1: Star says nothing of reading", x, "...")
	want(t, "P18.1: Star, off", marks.Star(x, "u", "x", 2, false), api.OK)
	want(t, "P18.1: Star, off, without a row", marks.Star(x, "u", "x", 0, false), api.OK)
	gone := 0
	for _, w := range x.Writes() {
		if w.Gone && (w.Key == "r/u/x/000002" || w.Key == "r/u/x/000000") {
			gone++
		}
	}
	if gone != 2 {
		t.Errorf("P18.1: a row of both 0 is deleted, whether it is there or not: %v", x.Writes())
	}
	want(t, "P18.1: once more", marks.Read(x, "u", "x", 0, true), api.OK)
	want(t, "P18.1: once more", marks.Read(x, "u", "x", 0, true), api.OK)
	reads(t, "P18.1: once more", x, "r..")
}

func TestErrors(t *testing.T) {
	x := begin(10)
	x.Put("f/y", `{"n":0,"title":""}`)
	x.Put("e/y/000000", `none`)
	x.Put("s/u/y", `{"folder":""}`)
	x.Put("s/v/x", `none`)
	before := len(x.Writes())
	for i, c := range []struct {
		user, feed string
		n          int
		want       api.Errno
	}{
		{"U", "x", 0, api.ErrName}, {"", "x", 0, api.ErrName}, {"u", "X", 0, api.ErrName}, {"u", "", 9, api.ErrName}, {"u", "x/y", 0, api.ErrName}, {"v", "x", 0, api.ErrNone}, {"w", "x", 0, api.ErrNone}, {"u", "none", 0, api.ErrNone},
		{"u", "x", 1, api.ErrNone}, {"u", "x", -1, api.ErrNone}, {"u", "x", 1000000, api.ErrNone}, {"u", "x", math.MaxInt, api.ErrNone}, {"u", "x", math.MinInt, api.ErrNone}, {"u", "y", 0, api.ErrNone},
	} {
		for _, on := range []bool{false, true} {
			want(t, "P18.1: Read, case "+strconv.Itoa(i), marks.Read(x, c.user, c.feed, c.n, on), c.want)
			want(t, "P18.1: Star, case "+strconv.Itoa(i), marks.Star(x, c.user, c.feed, c.n, on), c.want)
		}
	}
	for i, c := range []struct {
		user, feed string
		when       int
		want       api.Errno
	}{
		{"U", "x", -1, api.ErrName}, {"u", "", 5, api.ErrName}, {"u", "x", -1, api.ErrRange}, {"v", "none", api.MaxTime + 1, api.ErrRange}, {"u", "x", math.MaxInt, api.ErrRange}, {"u", "x", math.MinInt, api.ErrRange},
		{"v", "x", 5, api.ErrNone}, {"w", "x", 5, api.ErrNone}, {"u", "none", 5, api.ErrNone},
	} {
		want(t, "P18.1: Before, case "+strconv.Itoa(i), marks.Before(x, c.user, c.feed, c.when), c.want)
	}
	if len(x.Writes()) != before {
		t.Errorf("P0.2: %v", x.Writes())
	}
	for _, c := range [][2]string{{"v", "x"}, {"w", "x"}, {"u", "none"}, {"U", "x"}, {"u", "X"}, {"", ""}} {
		if n := marks.Unread(x, c[0], c[1]); n != -1 {
			t.Errorf("P18.2: Unread of %v: %d", c, n)
		}
		if marks.IsStar(x, c[0], c[1], 0) || marks.IsRead(x, c[0], c[1], api.Entry{}) {
			t.Errorf("P18.2: %v", c)
		}
	}
	if n := marks.Unread(x, "u", "y"); n != 0 {
		t.Errorf("P18.2: Unread of a feed without entries: %d", n)
	}
	for _, n := range []int{1, -1, 1000000, math.MaxInt, math.MinInt} {
		if marks.IsStar(x, "u", "x", n) {
			t.Errorf("P18.2: IsStar of %d", n)
		}
	}
}

func TestBefore(t *testing.T) {
	x := begin(10, 20)
	want(t, "P18.1: Before", marks.Before(x, "u", "x", 15), api.OK)
	reads(t, "P18.1: Before", x, "r.")
	rowIs(t, x, "m/u/x", `{"marks":[[15,2]]}`)
	come(x, 5)
	reads(t, "P18.4: one that comes later", x, "r..")
	want(t, "P18.1: Before", marks.Before(x, "u", "x", 4), api.OK)
	reads(t, "P18.1: below all", x, "r..")
	want(t, "P18.1: Before", marks.Before(x, "u", "x", 20), api.OK)
	reads(t, "P18.1: that of this time, too", x, "rrr")
	rowIs(t, x, "m/u/x", `{"marks":[[20,3]]}`)
	come(x, 0, api.MaxTime)
	reads(t, "P18.4: those that come later", x, "rrr..")
	want(t, "P18.1: Before", marks.Before(x, "u", "x", api.MaxTime), api.OK)
	reads(t, "P18.1: the last time", x, "rrrrr")
	want(t, "P18.1: Read, off", marks.Read(x, "u", "x", 3, false), api.OK)
	reads(t, "P18.1: unread in spite of the marks", x, "rrr.r")
	want(t, "P18.1: Star", marks.Star(x, "u", "x", 3, true), api.OK)
	want(t, "P18.1: Before", marks.Before(x, "u", "x", 0), api.OK)
	reads(t, "P18.1: Read 2 is 0 then", x, "rrrrr")
	rowIs(t, x, "r/u/x/000003", `{"read":0,"star":1}`)
	rowIs(t, x, "m/u/x", `{"marks":[[1099511627776,5]]}`)
}

func TestBeforeUnsays(t *testing.T) {
	x := begin(10, 20, 30, 40)
	for n := range 4 {
		marks.Read(x, "u", "x", n, n == 1)
	}
	marks.Star(x, "u", "x", 3, true)
	x.Put("r/u/x/000009", `{"read":2,"star":0}`)
	x.Put("r/u/x/000007", `none`)
	x.Put("r/u/x/7", `{"read":2,"star":0}`)
	want(t, "P18.1: Before", marks.Before(x, "u", "x", 30), api.OK)
	reads(t, "P18.1: Before", x, "rrr.")
	for key, row := range map[string]string{"r/u/x/000000": "", "r/u/x/000001": `{"read":1,"star":0}`, "r/u/x/000002": "", "r/u/x/000003": `{"read":2,"star":1}`, "r/u/x/000009": `{"read":2,"star":0}`, "r/u/x/000007": "none", "r/u/x/7": `{"read":2,"star":0}`} {
		rowIs(t, x, key, row)
	}
	subs.Subscribe(x, "v", "x", "")
	marks.Read(x, "v", "x", 0, false)
	want(t, "P18.1: Before", marks.Before(x, "u", "x", 50), api.OK)
	rowIs(t, x, "r/v/x/000000", `{"read":2,"star":0}`)
	if n := marks.Unread(x, "v", "x"); n != 4 {
		t.Errorf("P18.2: another user's: %d", n)
	}
}

func TestBeforeWithoutEntries(t *testing.T) {
	x := begin()
	before := len(x.Writes())
	want(t, "P18.1: Before with N 0", marks.Before(x, "u", "x", 15), api.OK)
	if len(x.Writes()) != before {
		t.Errorf("P18.1: with N 0 nothing is added: %v", x.Writes())
	}
	come(x, 5)
	reads(t, "P18.4", x, ".")
}

func TestMostMarks(t *testing.T) {
	x := begin()
	for i := range api.MaxMarks {
		come(x, 5)
		want(t, "P18.1: Before", marks.Before(x, "u", "x", 100-i), api.OK)
	}
	come(x, 5)
	kept := x.Writes()
	want(t, "P18.1: too many marks", marks.Before(x, "u", "x", 50), api.ErrLimit)
	if !slices.Equal(x.Writes(), kept) {
		t.Error("P0.2: what answers an error changes nothing")
	}
	reads(t, "P18.1: too many marks", x, "rrrrrrrr.")
	want(t, "P18.1: one that dominates others", marks.Before(x, "u", "x", 95), api.OK)
	reads(t, "P18.1: one that dominates others", x, "rrrrrrrrr")
}

func TestOddRows(t *testing.T) {
	x := begin(10, 20)
	x.Put("m/u/x", "none")
	x.Put("r/u/x/000000", "none")
	reads(t, "P18.2: rows that are none", x, "..")
	want(t, "P18.1: Star", marks.Star(x, "u", "x", 0, true), api.OK)
	rowIs(t, x, "r/u/x/000000", `{"read":0,"star":1}`)
	want(t, "P18.1: Before", marks.Before(x, "u", "x", 10), api.OK)
	rowIs(t, x, "m/u/x", `{"marks":[[10,2]]}`)
	x.Put("e/x/000001", "none")
	if n := marks.Unread(x, "u", "x"); n != 0 {
		t.Errorf("P18.2: an entry whose row is none: %d", n)
	}
}

func TestFull(t *testing.T) {
	x := begin(10, 20)
	marks.Read(x, "u", "x", 0, false)
	for i := len(x.Writes()); i < api.MaxWrites; i++ {
		x.Put("k"+strconv.Itoa(i), "")
	}
	want(t, "P18.1: Read", marks.Read(x, "u", "x", 1, true), api.ErrLimit)
	want(t, "P18.1: Star", marks.Star(x, "u", "x", 1, false), api.ErrLimit)
	want(t, "P18.1: Before", marks.Before(x, "u", "x", 30), api.ErrLimit)
	want(t, "P18.1: of a row that is written", marks.Read(x, "u", "x", 0, true), api.OK)
	reads(t, "P18.1: without room", x, "r.")
}

// TestModel does at random what a list of bools does as well.
func TestModel(t *testing.T) {
	r := rand.New(rand.NewSource(20))
	for range 150 {
		x := begin()
		var whens []int
		var isRead, isStar []bool
		for range 40 {
			n := r.Intn(len(whens) + 1)
			on := r.Intn(2) == 0
			there := api.OK
			if n == len(whens) {
				there = api.ErrNone
			}
			switch r.Intn(6) {
			case 0:
				whens, isRead, isStar = append(whens, r.Intn(20)), append(isRead, false), append(isStar, false)
				come(x, whens[len(whens)-1])
			case 1, 2:
				want(t, "P18.1: Read", marks.Read(x, "u", "x", n, on), there)
				if there == api.OK {
					isRead[n] = on
				}
			case 3:
				want(t, "P18.1: Star", marks.Star(x, "u", "x", n, on), there)
				if there == api.OK {
					isStar[n] = on
				}
			case 4:
				when := r.Intn(20)
				if marks.Before(x, "u", "x", when) == api.OK {
					for i := range whens {
						isRead[i] = isRead[i] || whens[i] <= when
					}
				}
			}
			text := ""
			for i := range whens {
				text += map[bool]string{false: ".", true: "r"}[isRead[i]]
				if marks.IsStar(x, "u", "x", i) != isStar[i] {
					t.Fatalf("P18.2: IsStar(%d)", i)
				}
			}
			reads(t, "P18.4", x, text)
			if t.Failed() {
				return
			}
		}
	}
}
