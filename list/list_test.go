package list_test

import (
	"math"
	"slices"
	"strconv"
	"strings"
	"testing"

	"handbill/api"
	"handbill/feed"
	"handbill/ingest"
	"handbill/list"
	"handbill/marks"
	"handbill/subs"
	"handbill/txn"
	"handbill/vers"
)

// begin tells a transaction that sees feeds x of so many entries and y of two, to which u subscribes.
func begin(n int) *txn.Txn {
	x := txn.Begin(vers.New[string](), 0)
	come(x, "x", n)
	come(x, "y", 2)
	come(x, "z", 1)
	subs.Subscribe(x, "u", "y", "")
	subs.Subscribe(x, "u", "x", "")
	subs.Subscribe(x, "v", "z", "")
	return x
}

func come(x *txn.Txn, name string, n int) {
	f := feed.Feed{Title: "T" + name}
	for i := range n {
		f.Entries = append(f.Entries, api.Entry{GUID: name + strconv.Itoa(i), Title: "t", Link: "l", When: 10 * i})
	}
	ingest.Into(x, name, f, api.MaxItems)
}

func text(feed string, x list.Item) string {
	s := feed + strconv.Itoa(x.Entry.Num)
	if x.Read {
		s += "r"
	}
	if x.Star {
		s += "*"
	}
	return s
}

func items(x *txn.Txn, user, feed string) string {
	var l []string
	for i := range list.Items(x, user, feed) {
		l = append(l, text("", i))
	}
	return strings.Join(l, " ")
}

func starred(x *txn.Txn, user string) string {
	var l []string
	for feed, i := range list.Starred(x, user) {
		l = append(l, text(feed, i))
	}
	return strings.Join(l, " ")
}

func TestItems(t *testing.T) {
	x := begin(4)
	marks.Read(x, "u", "x", 1, true)
	marks.Star(x, "u", "x", 1, true)
	marks.Star(x, "u", "x", 2, true)
	marks.Before(x, "u", "x", 5)
	if got := items(x, "u", "x"); got != "0r 1r* 2* 3" {
		t.Errorf("P19.1: Items: %s", got)
	}
	l := slices.Collect(list.Items(x, "u", "x"))
	if l[2] != (list.Item{Entry: api.Entry{Num: 2, GUID: "x2", Title: "t", Link: "l", When: 20}, Star: true}) {
		t.Errorf("P19.1: Items: %+v", l[2])
	}
	for _, c := range [][2]string{{"v", "x"}, {"w", "x"}, {"u", "none"}, {"U", "x"}, {"u", "X"}, {"", ""}} {
		s := list.Items(x, c[0], c[1])
		if s == nil || len(slices.Collect(s)) > 0 {
			t.Errorf("P19.1: Items of %v", c)
		}
	}
	s := list.Items(x, "u", "x")
	for range 2 {
		if n := len(slices.Collect(s)); n != 4 {
			t.Errorf("P19.1: ranged over: %d", n)
		}
	}
	for i := range s {
		if i.Entry.Num != 0 {
			t.Errorf("P19.1: left early: %v", i)
		}
		break
	}
	got := ""
	for i := range s {
		marks.Read(x, "u", "x", i.Entry.Num+1, true)
		got += text("", i)
	}
	if !strings.HasPrefix(got, "0r1r*") || items(x, "u", "x") != "0r 1r* 2r* 3r" {
		t.Errorf("P19.1: read meanwhile: %s", got)
	}
}

func TestPage(t *testing.T) {
	x := begin(3)
	marks.Read(x, "u", "x", 1, true)
	for _, c := range []struct {
		after, limit int
		want         string
		more         bool
	}{{-1, 2, "0 1r", true}, {1, 2, "2", false}, {-1, 3, "0 1r 2", false}, {-1, 50, "0 1r 2", false}, {0, 1, "1r", true}, {1, 1, "2", false}, {2, 1, "", false}, {999999, 50, "", false}, {-1, 1, "0", true}} {
		l, more, e := list.Page(x, "u", "x", c.after, c.limit)
		var got []string
		for _, i := range l {
			got = append(got, text("", i))
		}
		if s := strings.Join(got, " "); s != c.want || more != c.more || e != api.OK {
			t.Errorf("P19.1: Page(%d, %d): %s, %v, %d", c.after, c.limit, s, more, e)
		}
	}
	for i, c := range []struct {
		user, feed   string
		after, limit int
		want         api.Errno
	}{
		{"U", "x", -1, 2, api.ErrName}, {"", "x", -1, 2, api.ErrName}, {"u", "X", -1, 2, api.ErrName}, {"u", "", -2, 0, api.ErrName}, {"u", "x", -1, 0, api.ErrRange}, {"u", "x", -1, -1, api.ErrRange}, {"u", "x", -1, 51, api.ErrRange},
		{"u", "x", -1, math.MaxInt, api.ErrRange}, {"u", "x", -1, math.MinInt, api.ErrRange}, {"u", "x", -2, 2, api.ErrRange}, {"u", "x", 1000000, 2, api.ErrRange}, {"u", "x", math.MaxInt, 2, api.ErrRange}, {"u", "x", math.MinInt, 2, api.ErrRange},
		{"u", "none", -2, 2, api.ErrRange}, {"u", "none", -1, 2, api.ErrNone}, {"v", "x", -1, 2, api.ErrNone}, {"w", "x", 5, 2, api.ErrNone},
	} {
		if l, more, e := list.Page(x, c.user, c.feed, c.after, c.limit); len(l) > 0 || more || e != c.want {
			t.Errorf("P19.1: wrong, case %d: %v, %v, %d", i, l, more, e)
		}
	}
}

// TestPages goes through all pages: each item is told once.
func TestPages(t *testing.T) {
	for _, n := range []int{0, 1, 7, 100} {
		x := begin(n)
		if n == 7 {
			x.Put("e/x/000003", "none")
		}
		want := slices.Collect(list.Items(x, "u", "x"))
		for limit := 1; limit <= api.MaxPage; limit++ {
			var got []list.Item
			after, more := -1, true
			for more {
				var l []list.Item
				var e api.Errno
				if l, more, e = list.Page(x, "u", "x", after, limit); e != api.OK || len(l) > limit || more && len(l) < limit {
					t.Fatalf("P19.3: %d items, %v, %d", len(l), more, e)
				}
				got = append(got, l...)
				if len(l) > 0 {
					after = l[len(l)-1].Entry.Num
				}
			}
			if !slices.Equal(got, want) {
				t.Fatalf("P19.3: of %d, by %d: %v", n, limit, got)
			}
		}
	}
}

func TestStarred(t *testing.T) {
	x := begin(3)
	if got := starred(x, "u"); got != "" {
		t.Errorf("P19.1: Starred: %s", got)
	}
	marks.Star(x, "u", "y", 1, true)
	marks.Star(x, "u", "x", 2, true)
	marks.Star(x, "u", "x", 0, true)
	marks.Read(x, "u", "x", 1, true)
	marks.Read(x, "u", "x", 2, true)
	marks.Star(x, "v", "z", 0, true)
	if got := starred(x, "u"); got != "x0* x2r* y1*" {
		t.Errorf("P19.1: Starred: %s", got)
	}
	if got := starred(x, "v"); got != "z0*" {
		t.Errorf("P19.1: Starred: %s", got)
	}
	s := list.Starred(x, "u")
	for range 2 {
		n := 0
		for feed := range s {
			if n++; n == 2 {
				if feed != "x" {
					t.Errorf("P19.1: left early: %s", feed)
				}
				break
			}
		}
	}
	subs.Unsubscribe(x, "u", "x")
	if got := starred(x, "u"); got != "y1*" {
		t.Errorf("P19.1: Starred behind Unsubscribe: %s", got)
	}
	for _, user := range []string{"w", "U", ""} {
		if list.Starred(x, user) == nil || starred(x, user) != "" {
			t.Errorf("P19.1: Starred of %q", user)
		}
	}
}

func TestNewMemory(t *testing.T) {
	x := begin(3)
	a, _, _ := list.Page(x, "u", "x", -1, 2)
	b, _, _ := list.Page(x, "u", "x", -1, 2)
	a[0].Read = true
	_ = append(a[:1], list.Item{Star: true})
	if b[0].Read || b[1].Star || items(x, "u", "x") != "0 1 2" {
		t.Error("P19.2: answers share memory")
	}
}
