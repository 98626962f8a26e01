package view_test

import (
	"maps"
	"math"
	"strconv"
	"strings"
	"testing"

	"handbill/api"
	"handbill/feed"
	"handbill/ingest"
	"handbill/list"
	"handbill/marks"
	"handbill/subs"
	"handbill/txn"
	"handbill/vers"
	"handbill/view"
)

func come(x *txn.Txn, name string, n int) {
	f := feed.Feed{Title: "T" + name}
	for i := range n {
		f.Entries = append(f.Entries, api.Entry{GUID: "g" + strconv.Itoa(i), Title: "t" + strconv.Itoa(i), Link: "l", When: 10 * i})
	}
	ingest.Into(x, name, f, api.MaxItems)
}

func sees(t *testing.T, what string, x *txn.Txn, user string, want map[string]string) {
	t.Helper()
	m := view.Of(x, user)
	if m == nil {
		t.Fatalf("%s: nil", what)
	}
	if got := maps.Collect(m.All()); !maps.Equal(got, want) || view.Size(x, user) != len(want) {
		t.Errorf("%s: %v, of size %d; not %v", what, got, view.Size(x, user), want)
	}
}

func TestOf(t *testing.T) {
	x := txn.Begin(vers.New[string](), 0)
	come(x, "x", 2)
	come(x, "y", 1)
	come(x, "z", 0)
	sees(t, "P20.1: at first", x, "u", nil)
	subs.Add(x, "u", "x")
	sees(t, "P20.1: a folder", x, "u", map[string]string{"d/x": "{}"})
	subs.Add(x, "u", "b")
	subs.Subscribe(x, "u", "x", "b")
	subs.Subscribe(x, "u", "z", "")
	marks.Read(x, "u", "x", 1, true)
	marks.Star(x, "u", "x", 0, true)
	want := map[string]string{"d/x": "{}", "d/b": "{}", "s/x": `{"folder":"b","title":"Tx"}`, "s/z": `{"folder":"","title":"Tz"}`,
		"e/x/000000": `{"link":"l","read":false,"star":true,"title":"t0","when":0}`, "e/x/000001": `{"link":"l","read":true,"star":false,"title":"t1","when":10}`}
	sees(t, "P20.1: all", x, "u", want)
	for _, user := range []string{"", "U", "u/", "u/x", strings.Repeat("u", 21), "v", "uu"} {
		sees(t, "P20.1: the user "+user, x, user, nil)
	}
	// What another user does is not to be seen; that entries come is.
	subs.Add(x, "v", "c")
	subs.Subscribe(x, "v", "x", "c")
	marks.Before(x, "v", "x", 100)
	marks.Star(x, "v", "x", 1, true)
	sees(t, "P20.4: what another user does", x, "u", want)
	come(x, "x", 3)
	want["e/x/000002"] = `{"link":"l","read":false,"star":false,"title":"t2","when":20}`
	sees(t, "P20.4: an entry that comes", x, "u", want)
	marks.Before(x, "u", "x", 15)
	want["e/x/000000"] = `{"link":"l","read":true,"star":true,"title":"t0","when":0}`
	sees(t, "P20.1: marks", x, "u", want)
	subs.Unsubscribe(x, "u", "x")
	sees(t, "P20.1: behind Unsubscribe", x, "u", map[string]string{"d/x": "{}", "d/b": "{}", "s/z": `{"folder":"","title":"Tz"}`})
	sees(t, "P20.4: what another user does", x, "v", map[string]string{"d/c": "{}", "s/x": `{"folder":"c","title":"Tx"}`, "e/x/000000": `{"link":"l","read":true,"star":false,"title":"t0","when":0}`,
		"e/x/000001": `{"link":"l","read":true,"star":true,"title":"t1","when":10}`, "e/x/000002": `{"link":"l","read":false,"star":false,"title":"t2","when":20}`})
}

func TestTexts(t *testing.T) {
	for want, x := range map[string]subs.Sub{`{"folder":"","title":""}`: {}, `{"folder":"d","title":"a\"b\né"}`: {Feed: "x", Folder: "d", Title: "a\"b\né"}} {
		if got := view.SubText(x); got != want {
			t.Errorf("P20.2: SubText: %s, not %s", got, want)
		}
	}
	long := strings.Repeat("a", api.MaxText+1)
	for i, x := range []subs.Sub{{Folder: "\xff"}, {Title: "\xff"}, {Title: long}, {Folder: long}} {
		if got := view.SubText(x); got != "" {
			t.Errorf("P20.2: SubText %d: %s", i, got)
		}
	}
	for want, x := range map[string]list.Item{
		`{"link":"","read":false,"star":false,"title":"","when":0}`: {}, `{"link":"\\","read":true,"star":true,"title":"é","when":-5}`: {Entry: api.Entry{Num: -1, GUID: "\xff", Link: "\\", Title: "é", When: -5}, Read: true, Star: true},
		`{"link":"l","read":false,"star":true,"title":"","when":9007199254740991}`: {Entry: api.Entry{Link: "l", When: 1<<53 - 1}, Star: true}, `{"link":"","read":true,"star":false,"title":"` + long[1:] + `","when":1}`: {Entry: api.Entry{Title: long[1:], When: 1}, Read: true},
	} {
		if got := view.ItemText(x); got != want {
			t.Errorf("P20.2: ItemText: %s, not %s", got, want)
		}
	}
	for i, e := range []api.Entry{{Link: "\xff"}, {Title: "\xff"}, {Title: long}, {Link: long}, {When: 1 << 53}, {When: -1 << 53}, {When: math.MaxInt}, {When: math.MinInt}} {
		if got := view.ItemText(list.Item{Entry: e}); got != "" {
			t.Errorf("P20.2: ItemText %d: %s", i, got)
		}
	}
}

func TestNewMemory(t *testing.T) {
	x := txn.Begin(vers.New[string](), 0)
	subs.Add(x, "u", "a")
	m := view.Of(x, "u")
	m.Put("spoilt", "")
	m.Delete("d/a")
	sees(t, "P20.3", x, "u", map[string]string{"d/a": "{}"})
}
