package keys_test

import (
	"math"
	"math/rand"
	"strings"
	"testing"

	"handbill/keys"
)

var wrongNames = []string{"", "A", "a b", "a/b", "é", "a_b", "a.b", "a\x00", "`", "{", ":", "/", "\xff", strings.Repeat("a", 21), "aZ"}

func TestName(t *testing.T) {
	for _, s := range []string{"a", "z", "0", "9", "-", "a-9", "--", strings.Repeat("z", 20)} {
		if !keys.Name(s) {
			t.Errorf("P14.1: Name(%q)", s)
		}
	}
	for _, s := range wrongNames {
		if keys.Name(s) {
			t.Errorf("P14.1: Name(%q)", s)
		}
	}
}

func TestKeys(t *testing.T) {
	guid := strings.Repeat("\xff", 500)
	for _, c := range []struct {
		got, want string
		parts     keys.Parts
	}{
		{keys.Feed("x"), "f/x", keys.Parts{Kind: 1, Feed: "x"}}, {keys.Entry("x", 7), "e/x/000007", keys.Parts{Kind: 2, Feed: "x", Num: 7}}, {keys.Entry("x", 0), "e/x/000000", keys.Parts{Kind: 2, Feed: "x"}},
		{keys.Entry("x", 999999), "e/x/999999", keys.Parts{Kind: 2, Feed: "x", Num: 999999}}, {keys.Guid("x", "a/\xff"), "g/x/612fff", keys.Parts{Kind: 3, Feed: "x", GUID: "a/\xff"}},
		{keys.Guid("x", guid), "g/x/" + strings.Repeat("ff", 500), keys.Parts{Kind: 3, Feed: "x", GUID: guid}}, {keys.Sub("u", "x"), "s/u/x", keys.Parts{Kind: 4, User: "u", Feed: "x"}},
		{keys.Folder("u", "n"), "d/u/n", keys.Parts{Kind: 5, User: "u", Name: "n"}}, {keys.State("u", "x", 12), "r/u/x/000012", keys.Parts{Kind: 6, User: "u", Feed: "x", Num: 12}}, {keys.Marks("u", "x"), "m/u/x", keys.Parts{Kind: 7, User: "u", Feed: "x"}},
	} {
		if c.got != c.want {
			t.Errorf("P14.1: %s, not %s", c.got, c.want)
		}
		if p, ok := keys.Parse(c.want); p != c.parts || !ok {
			t.Errorf("P14.2: Parse(%s) = %+v, %v", c.want, p, ok)
		}
	}
	if keys.KFeed != 1 || keys.KEntry != 2 || keys.KGuid != 3 || keys.KSub != 4 || keys.KFolder != 5 || keys.KState != 6 || keys.KMarks != 7 {
		t.Error("P14.1: the kinds")
	}
	for got, want := range map[string]string{keys.Subs("u"): "s/u/", keys.Folders("u"): "d/u/", keys.Entries("x"): "e/x/", keys.States("u", "x"): "r/u/x/"} {
		if got != want {
			t.Errorf("P14.2: %s, not %s", got, want)
		}
	}
}

func TestKeysWrong(t *testing.T) {
	nothing := func(what, got string) {
		t.Helper()
		if got != "" {
			t.Errorf("P14.1, P14.2: %s: %q", what, got)
		}
	}
	for _, s := range wrongNames {
		nothing("Feed", keys.Feed(s))
		nothing("Entry", keys.Entry(s, 1))
		nothing("Guid", keys.Guid(s, "g"))
		nothing("Sub", keys.Sub(s, "x"))
		nothing("Sub", keys.Sub("u", s))
		nothing("Folder", keys.Folder(s, "n"))
		nothing("Folder", keys.Folder("u", s))
		nothing("State", keys.State(s, "x", 1))
		nothing("State", keys.State("u", s, 1))
		nothing("Marks", keys.Marks(s, "x"))
		nothing("Marks", keys.Marks("u", s))
		nothing("Subs", keys.Subs(s))
		nothing("Folders", keys.Folders(s))
		nothing("Entries", keys.Entries(s))
		nothing("States", keys.States(s, "x"))
		nothing("States", keys.States("u", s))
	}
	for _, n := range []int{-1, 1000000, math.MaxInt, math.MinInt} {
		nothing("Entry", keys.Entry("x", n))
		nothing("State", keys.State("u", "x", n))
	}
	nothing("Guid", keys.Guid("x", ""))
	nothing("Guid", keys.Guid("x", strings.Repeat("a", 501)))
}

func TestParseWrong(t *testing.T) {
	for _, s := range []string{
		"", "/", "//", "///", "f", "f/", "f/X", "f/x/", "f/x/y", "/f/x", "F/x", "x/x", "f/" + strings.Repeat("a", 21), "boot", "ff/x",
		"e/x", "e/x/", "e/x/7", "e/x/0000007", "e/x/00007", "e/x/-00007", "e/x/+00007", "e/x/00000a", "e/x/000007/", "e/X/000007", "e//000007", "e/x/ 00007", "e/x/1000000",
		"g/x", "g/x/", "g/x/6", "g/x/6g", "g/x/6A", "g/x/61/", "g/X/61", "g//61", "g/x/" + strings.Repeat("61", 501),
		"s/u", "s/u/", "s//x", "s/U/x", "s/u/X", "s/u/x/", "s/u/x/y", "d/u", "d/u/", "d//n", "d/u/N", "d/U/n", "r/u/x", "r/u/x/", "r/u/x/1", "r/u/x/00000a", "r/u/x/000001/", "r/u/X/000001", "r/U/x/000001", "r//x/000001", "r/u//000001",
		"m/u", "m/u/", "m//x", "m/U/x", "m/u/X", "m/u/x/000001", "e/u/x/000001", "z/u/x",
	} {
		if p, ok := keys.Parse(s); ok || p != (keys.Parts{}) {
			t.Errorf("P14.2: Parse(%q) = %+v, %v", s, p, ok)
		}
	}
}

func TestOrder(t *testing.T) {
	r := rand.New(rand.NewSource(17))
	for range 1000 {
		m, n := r.Intn(1000000), r.Intn(1000000)
		a, b := keys.Entry("x", m), keys.Entry("x", n)
		if (a < b) != (m < n) || !strings.HasPrefix(a, keys.Entries("x")) || !strings.HasPrefix(keys.State("u", "x", m), keys.States("u", "x")) {
			t.Fatalf("P14.4: %s, %s", a, b)
		}
		if p, ok := keys.Parse(a); !ok || p.Num != m {
			t.Fatalf("P14.4: %s: %+v", a, p)
		}
	}
	guid := make([]byte, 500)
	for n := 1; n <= 500; n++ {
		r.Read(guid[:n])
		if p, ok := keys.Parse(keys.Guid("x", string(guid[:n]))); !ok || p.GUID != string(guid[:n]) || p.Feed != "x" || p.Kind != keys.KGuid {
			t.Fatalf("P14.4: %+v", p)
		}
	}
	if !strings.HasPrefix(keys.Sub("u", "x"), keys.Subs("u")) || !strings.HasPrefix(keys.Folder("u", "n"), keys.Folders("u")) {
		t.Error("P14.2: what keys begin with")
	}
}
