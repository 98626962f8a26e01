package ingest_test

import (
	"math"
	"math/rand"
	"slices"
	"strconv"
	"strings"
	"testing"

	"handbill/api"
	"handbill/feed"
	"handbill/ingest"
	"handbill/keys"
	"handbill/rows"
	"handbill/txn"
	"handbill/vers"
)

func begin() *txn.Txn { return txn.Begin(vers.New[string](), 0) }

// doc tells a feed with entries of these GUIDs.
func doc(title string, guids ...string) feed.Feed {
	f := feed.Feed{Title: title}
	for i, g := range guids {
		f.Entries = append(f.Entries, api.Entry{Num: 77, GUID: g, Title: "t" + g, Link: "l" + g, When: 100 + i})
	}
	return f
}

func into(t *testing.T, x *txn.Txn, f feed.Feed, most, added int, more bool) {
	t.Helper()
	if n, m, e := ingest.Into(x, "x", f, most); n != added || m != more || e != api.OK {
		t.Errorf("P16.2: Into: %d, %v, %d; not %d, %v", n, m, e, added, more)
	}
}

func feedIs(t *testing.T, x *txn.Txn, title string, n int) {
	t.Helper()
	if f, ok := ingest.Feed(x, "x"); f != (rows.Feed{Title: title, N: n}) || !ok {
		t.Errorf("P16.2: the feed: %v, %v; not %q, %d", f, ok, title, n)
	}
}

func guids(x *txn.Txn, name string) string {
	s := ""
	for e := range ingest.Entries(x, name) {
		s += strconv.Itoa(e.Num) + e.GUID + " "
	}
	return s
}

func TestInto(t *testing.T) {
	x := begin()
	into(t, x, doc("T", "a", "b"), 5, 2, false)
	feedIs(t, x, "T", 2)
	l := []api.Write{{Key: "e/x/000000", Value: `{"guid":"a","link":"la","title":"ta","when":100}`}, {Key: "e/x/000001", Value: `{"guid":"b","link":"lb","title":"tb","when":101}`},
		{Key: "f/x", Value: `{"n":2,"title":"T"}`}, {Key: "g/x/61", Value: "0"}, {Key: "g/x/62", Value: "1"}}
	if !slices.Equal(x.Writes(), l) {
		t.Errorf("P16.2: the rows: %v", x.Writes())
	}
	into(t, x, doc("T", "a", "b"), 5, 0, false)
	into(t, x, doc("U", "b", "c", "a", "d"), 5, 2, false)
	feedIs(t, x, "U", 4)
	into(t, x, doc("", "d"), 5, 0, false)
	feedIs(t, x, "U", 4)
	into(t, x, doc("", "e"), 5, 1, false)
	feedIs(t, x, "U", 5)
	if got := guids(x, "x"); got != "0a 1b 2c 3d 4e " {
		t.Errorf("P16.4: %s", got)
	}
	if e, ok := ingest.Entry(x, "x", 2); e != (api.Entry{Num: 2, GUID: "c", Title: "tc", Link: "lc", When: 101}) || !ok {
		t.Errorf("P16.1: Entry: %v, %v", e, ok)
	}
	if v, _ := x.Get("g/x/65"); v != "4" {
		t.Errorf("P16.2: the row of a GUID: %s", v)
	}
	// Another feed has its own numbers and GUIDs.
	if n, more, e := ingest.Into(x, "y", doc("", "a"), 1); n != 1 || more || e != api.OK || guids(x, "y") != "0a " {
		t.Errorf("P16.2: another feed: %d, %v, %d", n, more, e)
	}
	if f, ok := ingest.Feed(x, "y"); f != (rows.Feed{N: 1}) || !ok {
		t.Errorf("P16.2: another feed: %v, %v", f, ok)
	}
}

func TestFeedRow(t *testing.T) {
	x := begin()
	into(t, x, doc(""), 1, 0, false)
	feedIs(t, x, "", 0)
	s := vers.New[string]()
	s.Put(1, "f/x", `{"n":0,"title":"T"}`)
	x = txn.Begin(s, 1)
	into(t, x, doc(""), 1, 0, false)
	if len(x.Writes()) > 0 {
		t.Errorf("P16.2: nothing to say: %v", x.Writes())
	}
	into(t, x, doc("T"), 1, 0, false)
	if !slices.Equal(x.Writes(), []api.Write{{Key: "f/x", Value: `{"n":0,"title":"T"}`}}) {
		t.Errorf("P16.2: the title once more: %v", x.Writes())
	}
}

func TestMost(t *testing.T) {
	x := begin()
	f := doc("T", "a", "b", "c", "d", "e")
	into(t, x, f, 2, 2, true)
	feedIs(t, x, "T", 2)
	if got := guids(x, "x"); got != "0a 1b " {
		t.Errorf("P16.2: %s", got)
	}
	into(t, x, f, 2, 2, true)
	into(t, x, f, 2, 1, false)
	into(t, x, f, 2, 0, false)
	if got := guids(x, "x"); got != "0a 1b 2c 3d 4e " {
		t.Errorf("P16.4: %s", got)
	}
	into(t, x, doc("T", "f", "g", "a", "b"), 2, 2, false)
	into(t, x, doc("T", "h", "a", "i"), 1, 1, true)
	into(t, x, doc("T", "j", "j", "j"), 1, 1, false)
	into(t, x, doc("T", "k", "k", "l"), 2, 2, false)
	feedIs(t, x, "T", 11)
	var many []string
	for i := range 250 {
		many = append(many, "m"+strconv.Itoa(i))
	}
	x = begin()
	into(t, x, doc("", many...), api.MaxItems, 200, true)
	into(t, x, doc("", many...), api.MaxItems, 50, false)
}

func TestErrors(t *testing.T) {
	long := strings.Repeat("a", 501)
	good := doc("T", "a")
	bad := doc("T", "a", "b")
	bad.Entries[1].When = -1
	for i, c := range []struct {
		name string
		f    feed.Feed
		most int
		want api.Errno
	}{
		{"x", good, 0, api.ErrRange}, {"x", good, -1, api.ErrRange}, {"x", good, 201, api.ErrRange}, {"x", good, math.MaxInt, api.ErrRange}, {"x", good, math.MinInt, api.ErrRange}, {"X", bad, 0, api.ErrRange},
		{"", good, 1, api.ErrName}, {"X", good, 1, api.ErrName}, {"a/b", bad, 1, api.ErrName}, {strings.Repeat("x", 21), good, 1, api.ErrName},
		{"x", doc(long), 1, api.ErrForm}, {"x", doc("\xff"), 1, api.ErrForm}, {"x", doc("T", ""), 1, api.ErrForm}, {"x", doc("T", "a", long), 1, api.ErrForm}, {"x", bad, 1, api.ErrForm}, {"x", doc("", "a", "b", "\xff"), 1, api.ErrForm},
		{"bad", good, 1, api.ErrForm}, {"full", good, 1, api.ErrLimit}, {"over", good, 1, api.ErrLimit},
	} {
		x := begin()
		x.Put("f/bad", "{}")
		x.Put("f/full", `{"n":900000,"title":""}`)
		x.Put("f/over", `{"n":1000000,"title":""}`)
		if n, more, e := ingest.Into(x, c.name, c.f, c.most); n != 0 || more || e != c.want {
			t.Errorf("P16.2: case %d: %d, %v, %d; not %d", i, n, more, e, c.want)
		}
		if c.want != api.ErrLimit && len(x.Writes()) != 3 {
			t.Errorf("P0.2: case %d: %v", i, x.Writes())
		}
	}
	x := begin()
	x.Put("f/x", `{"n":899999,"title":""}`)
	into(t, x, doc("", "a"), 5, 1, false)
	into(t, x, doc("V", "a"), 5, 0, false)
	feedIs(t, x, "V", 900000)
	if n, more, e := ingest.Into(x, "x", doc("W", "b"), 5); n != 0 || more || e != api.ErrLimit {
		t.Errorf("P16.2: above 900000: %d, %v, %d", n, more, e)
	}
}

func TestErrorsOfPut(t *testing.T) {
	for room := range 4 {
		x := begin()
		for i := range api.MaxWrites - room {
			x.Put("k"+strconv.Itoa(i), "")
		}
		n, more, e := ingest.Into(x, "x", doc("T", "a"), 5)
		if room < 3 && (n != 0 || more || e != api.ErrLimit) || room == 3 && (n != 1 || e != api.OK) {
			t.Errorf("P16.2: room for %d writes: %d, %v, %d", room, n, more, e)
		}
	}
	control := strings.Repeat("\x01", 500)
	f := feed.Feed{Entries: []api.Entry{{GUID: "g", Title: control, Link: control}, {GUID: "h"}}}
	if n, more, e := ingest.Into(begin(), "x", f, 5); n != 0 || more || e != api.ErrLong {
		t.Errorf("P16.2: a row that is too long: %d, %v, %d", n, more, e)
	}
}

func TestReadRows(t *testing.T) {
	x := begin()
	x.Put("f/x", `{"n":1,"title":"T"}`)
	x.Put("f/y", `{"n":1}`)
	x.Put("e/x/000003", `{"guid":"c","link":"","title":"","when":3}`)
	x.Put("e/x/000001", `{"guid":"a","link":"","title":"","when":1}`)
	x.Put("e/x/000002", `none`)
	x.Put("e/x/4", `{"guid":"d","link":"","title":"","when":1}`)
	x.Put("e/x/000005/", `{"guid":"e","link":"","title":"","when":1}`)
	x.Put("e/xx/000006", `{"guid":"f","link":"","title":"","when":1}`)
	if f, ok := ingest.Feed(x, "x"); f != (rows.Feed{Title: "T", N: 1}) || !ok {
		t.Errorf("P16.1: Feed: %v, %v", f, ok)
	}
	for _, name := range []string{"y", "z", "", "X", "x/", "x/000001"} {
		if f, ok := ingest.Feed(x, name); ok || f != (rows.Feed{}) {
			t.Errorf("P16.1: Feed(%q): %v, %v", name, f, ok)
		}
	}
	for n, want := range map[int]string{1: "a", 3: "c", 2: "", 4: "", 5: "", 0: "", -1: "", 1000000: "", math.MaxInt: "", math.MinInt: ""} {
		if e, ok := ingest.Entry(x, "x", n); ok != (want != "") || ok && (e.GUID != want || e.Num != n) || !ok && e != (api.Entry{}) {
			t.Errorf("P16.1: Entry(%d): %v, %v", n, e, ok)
		}
	}
	for _, name := range []string{"y", "", "X", "x/"} {
		if e, ok := ingest.Entry(x, name, 1); ok || e != (api.Entry{}) {
			t.Errorf("P16.1: Entry of %q: %v, %v", name, e, ok)
		}
	}
	s := ingest.Entries(x, "x")
	for range 2 {
		l := slices.Collect(s)
		if !slices.Equal(l, []api.Entry{{Num: 1, GUID: "a", When: 1}, {Num: 3, GUID: "c", When: 3}}) {
			t.Errorf("P16.1: Entries: %v", l)
		}
	}
	for e := range s {
		if e.Num != 1 {
			t.Errorf("P16.1: left early: %v", e)
		}
		break
	}
	for _, name := range []string{"y", "", "X", "e"} {
		none := ingest.Entries(x, name)
		if none == nil || len(slices.Collect(none)) > 0 {
			t.Errorf("P16.1: Entries of %q", name)
		}
	}
}

func TestDeletedGuid(t *testing.T) {
	s := vers.New[string]()
	x := txn.Begin(s, 0)
	into(t, x, doc("T", "a"), 5, 1, false)
	for _, w := range x.Writes() {
		s.Put(1, w.Key, w.Value)
	}
	y := txn.Begin(s, 1)
	into(t, y, doc("T", "a"), 5, 0, false)
	y.Delete(keys.Guid("x", "a"))
	into(t, y, doc("T", "a"), 5, 1, false)
	if got := guids(y, "x"); got != "0a 1a " {
		t.Errorf("P16.2: it is what t sees that counts: %s", got)
	}
	old := txn.Begin(s, 0)
	into(t, old, doc("T", "a"), 5, 1, false)
}

// TestRandom brings documents at random, and holds that each GUID has one entry, and numbers no gap.
func TestRandom(t *testing.T) {
	r := rand.New(rand.NewSource(19))
	for range 200 {
		x := begin()
		var order []string
		for range 8 {
			var l []string
			for range r.Intn(7) {
				l = append(l, "g"+strconv.Itoa(r.Intn(12)))
			}
			most := 1 + r.Intn(4)
			var fresh []string
			for _, g := range l {
				if !slices.Contains(order, g) && !slices.Contains(fresh, g) {
					fresh = append(fresh, g)
				}
			}
			n := min(most, len(fresh))
			into(t, x, doc("T", l...), most, n, len(fresh) > n)
			order = append(order, fresh[:n]...)
		}
		want := ""
		for i, g := range order {
			want += strconv.Itoa(i) + g + " "
		}
		if got := guids(x, "x"); got != want {
			t.Fatalf("P16.4: %s, not %s", got, want)
		}
		feedIs(t, x, "T", len(order))
	}
}

func TestKeepsNothing(t *testing.T) {
	x := begin()
	f := doc("T", "a", "b")
	kept := doc("T", "a", "b")
	into(t, x, f, 5, 2, false)
	if !feed.Same(f, kept) {
		t.Error("P16.3: what is handed in is changed")
	}
	f.Entries[0].GUID = "spoilt"
	if got := guids(x, "x"); got != "0a 1b " {
		t.Errorf("P16.3: what is handed in is kept: %s", got)
	}
}
