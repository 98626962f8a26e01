package delta_test

import (
	"maps"
	"math"
	"math/rand"
	"slices"
	"strconv"
	"strings"
	"testing"

	"handbill/api"
	"handbill/base"
	"handbill/delta"
	"handbill/diff"
	"handbill/disk"
	"handbill/feed"
	"handbill/ingest"
	"handbill/marks"
	"handbill/omap"
	"handbill/subs"
	"handbill/token"
	"handbill/txn"
	"handbill/view"
)

type change = diff.Change[string]

func fresh(t *testing.T) *base.Base {
	t.Helper()
	d, _ := disk.New(1 << 24)
	b, e := base.Open(d, 4096)
	if e != api.OK {
		t.Fatal("Open")
	}
	return b
}

// commit does something in a transaction of its own.
func commit(t *testing.T, b *base.Base, do func(x *txn.Txn)) {
	t.Helper()
	x := b.Begin()
	do(x)
	if _, e := b.Commit(x); e != api.OK {
		t.Fatalf("Commit: %d", e)
	}
}

func come(x *txn.Txn, name string, from, n int) {
	f := feed.Feed{Title: "T" + name}
	for i := range n {
		f.Entries = append(f.Entries, api.Entry{GUID: "g" + strconv.Itoa(from+i), Title: "t" + strconv.Itoa(from+i), When: from + i})
	}
	ingest.Into(x, name, f, api.MaxItems)
}

// history tells a base of these times: 1 a folder a of u, 2 a feed x of three entries, 3 u subscribes, 4 entry 1 is read.
func history(t *testing.T) *base.Base {
	b := fresh(t)
	commit(t, b, func(x *txn.Txn) { subs.Add(x, "u", "a") })
	commit(t, b, func(x *txn.Txn) { come(x, "x", 0, 3) })
	commit(t, b, func(x *txn.Txn) { subs.Subscribe(x, "u", "x", "a") })
	commit(t, b, func(x *txn.Txn) { marks.Read(x, "u", "x", 1, true) })
	return b
}

func print1(t *testing.T, x token.Token) string {
	t.Helper()
	s, e := token.Print(x)
	if e != api.OK {
		t.Fatalf("token %+v: %d", x, e)
	}
	return s
}

func at(b *base.Base, user string, when int) map[string]string {
	if when == 0 {
		return map[string]string{}
	}
	return maps.Collect(view.Of(b.At(when), user).All())
}

func pending(t *testing.T, b *base.Base, tok string, want int) {
	t.Helper()
	if n, e := delta.Pending(b, "u", tok); n != want || e != api.OK {
		t.Errorf("P23.2: Pending: %d, %d; not %d", n, e, want)
	}
}

func TestEmpty(t *testing.T) {
	b := fresh(t)
	p, e := delta.Next(b, "u", "", 5)
	if len(p.Changes) > 0 || p.More || p.At != 0 || p.Next != print1(t, token.Token{User: "u"}) || e != api.OK {
		t.Errorf("P23.1: nothing there: %+v, %d", p, e)
	}
	pending(t, b, "", 0)
	pending(t, b, p.Next, 0)
	commit(t, b, func(x *txn.Txn) { come(x, "x", 0, 3) })
	p, e = delta.Next(b, "u", p.Next, 5)
	if len(p.Changes) > 0 || p.More || p.At != 1 || p.Next != print1(t, token.Token{User: "u", From: 1}) || e != api.OK {
		t.Errorf("P23.1: nothing of this user: %+v, %d", p, e)
	}
}

func TestPages(t *testing.T) {
	b := history(t)
	item := func(n, read string) string {
		return `{"link":"","read":` + read + `,"star":false,"title":"t` + n + `","when":` + n + `}`
	}
	all := []change{{Key: "d/a", Val: "{}"}, {Key: "e/x/000000", Val: item("0", "false")}, {Key: "e/x/000001", Val: item("1", "true")}, {Key: "e/x/000002", Val: item("2", "false")}, {Key: "s/x", Val: `{"folder":"a","title":"Tx"}`}}
	p, e := delta.Next(b, "u", "", 5)
	if !slices.Equal(p.Changes, all) || p.More || p.At != 4 || p.Next != print1(t, token.Token{User: "u", From: 4}) || e != api.OK {
		t.Errorf("P23.1: all: %+v, %d", p, e)
	}
	p, e = delta.Next(b, "u", "", 2)
	second := print1(t, token.Token{User: "u", To: 4, Key: "e/x/000000"})
	if !slices.Equal(p.Changes, all[:2]) || !p.More || p.At != 4 || p.Next != second || e != api.OK {
		t.Errorf("P23.1: the first two: %+v, %d", p, e)
	}
	pending(t, b, "", 5)
	pending(t, b, second, 3)
	// What comes meanwhile is told behind the last page of what was there.
	commit(t, b, func(x *txn.Txn) { subs.Unsubscribe(x, "u", "x"); subs.Remove(x, "u", "a"); subs.Add(x, "u", "b") })
	p, e = delta.Next(b, "u", second, 2)
	third := print1(t, token.Token{User: "u", To: 4, Key: "e/x/000002"})
	if !slices.Equal(p.Changes, all[2:4]) || !p.More || p.At != 4 || p.Next != third || e != api.OK {
		t.Errorf("P23.1: the next two: %+v, %d", p, e)
	}
	p, e = delta.Next(b, "u", third, 2)
	last := print1(t, token.Token{User: "u", From: 4})
	if !slices.Equal(p.Changes, all[4:]) || p.More || p.At != 4 || p.Next != last || e != api.OK {
		t.Errorf("P23.1: the last one: %+v, %d", p, e)
	}
	p, e = delta.Next(b, "u", last, 50)
	want := []change{{Key: "d/a", Gone: true}, {Key: "d/b", Val: "{}"}, {Key: "e/x/000000", Gone: true}, {Key: "e/x/000001", Gone: true}, {Key: "e/x/000002", Gone: true}, {Key: "s/x", Gone: true}}
	if !slices.Equal(p.Changes, want) || p.More || p.At != 5 || e != api.OK {
		t.Errorf("P23.1: from 4 on: %+v, %d", p, e)
	}
	pending(t, b, last, 6)
	if again, _ := delta.Next(b, "u", last, 50); !slices.Equal(again.Changes, p.Changes) || again.Next != p.Next {
		t.Errorf("P23.4: told again: %+v", again)
	}
	p, _ = delta.Next(b, "u", print1(t, token.Token{User: "u", From: 1, To: 3, Key: "e/x/000001"}), 1)
	if !slices.Equal(p.Changes, []change{{Key: "e/x/000002", Val: item("2", "false")}}) || p.At != 3 || !p.More || p.Next != print1(t, token.Token{User: "u", From: 1, To: 3, Key: "e/x/000002"}) {
		t.Errorf("P23.1: from 1 to 3: %+v", p)
	}
	p, _ = delta.Next(b, "u", print1(t, token.Token{User: "u", From: 1, To: 3, Key: "zzz"}), 1)
	if len(p.Changes) > 0 || p.More || p.Next != print1(t, token.Token{User: "u", From: 3}) || p.At != 3 {
		t.Errorf("P23.1: behind the last key: %+v", p)
	}
}

func TestTargetOfOne(t *testing.T) {
	b := history(t)
	p, e := delta.Next(b, "u", print1(t, token.Token{User: "u", To: 1, Key: "a"}), 5)
	if !slices.Equal(p.Changes, []change{{Key: "d/a", Val: "{}"}}) || p.More || p.At != 1 || p.Next != print1(t, token.Token{User: "u", From: 1}) || e != api.OK {
		t.Errorf("P23.1: to 1: %+v, %d", p, e)
	}
	p, e = delta.Next(b, "u", print1(t, token.Token{User: "u", From: 1, To: 1, Key: "a"}), 5)
	if len(p.Changes) > 0 || p.More || p.At != 1 || e != api.OK {
		t.Errorf("P23.1: from 1 to 1: %+v, %d", p, e)
	}
}

func TestErrors(t *testing.T) {
	b := history(t)
	b.Prune(3)
	good := print1(t, token.Token{User: "u", From: 3})
	for i, c := range []struct {
		user, tok string
		limit     int
		want      api.Errno
	}{
		{"U", "x", 0, api.ErrName}, {"", "", 5, api.ErrName}, {"u/x", "", 5, api.ErrName}, {"u", "x", 0, api.ErrRange}, {"u", "", -1, api.ErrRange}, {"u", "", 51, api.ErrRange}, {"u", "", math.MaxInt, api.ErrRange}, {"u", "", math.MinInt, api.ErrRange},
		{"u", "x", 5, api.ErrToken}, {"u", strings.ToUpper(print1(t, token.Token{User: "uz", From: 3})), 5, api.ErrToken}, {"u", good + "00", 5, api.ErrToken}, {"v", good, 5, api.ErrToken}, {"uu", good, 5, api.ErrToken},
		{"u", print1(t, token.Token{User: "u", From: 5}), 5, api.ErrToken}, {"u", print1(t, token.Token{User: "u", From: 3, To: 5, Key: "k"}), 5, api.ErrToken}, {"u", print1(t, token.Token{User: "u", From: 1, To: 5, Key: "k"}), 5, api.ErrToken},
		{"v", print1(t, token.Token{User: "u", From: 1}), 5, api.ErrToken}, {"u", print1(t, token.Token{User: "u", From: api.MaxTime}), 5, api.ErrToken},
		{"u", print1(t, token.Token{User: "u", From: 2}), 5, api.ErrExpired}, {"u", print1(t, token.Token{User: "u", From: 1, To: 4, Key: "k"}), 5, api.ErrExpired}, {"u", print1(t, token.Token{User: "u", To: 2, Key: "k"}), 5, api.ErrExpired},
		{"u", print1(t, token.Token{User: "u", From: 1, To: 2, Key: "k"}), 5, api.ErrExpired}, {"u", good, 50, api.OK}, {"u", good, 1, api.OK}, {"u", print1(t, token.Token{User: "u", To: 3, Key: "k"}), 5, api.OK}, {"u", print1(t, token.Token{User: "u", From: 3, To: 4, Key: "k"}), 5, api.OK},
		{"u", print1(t, token.Token{User: "u"}), 5, api.OK}, {"u", "", 5, api.OK}, {strings.Repeat("u", 20), "", 5, api.OK},
	} {
		p, e := delta.Next(b, c.user, c.tok, c.limit)
		if e != c.want || e != api.OK && (len(p.Changes) > 0 || p.Next != "" || p.More || p.At != 0) {
			t.Errorf("P23.1: case %d: %+v, %d; not %d", i, p, e, c.want)
		}
		if c.want == api.ErrRange {
			continue
		}
		n, e := delta.Pending(b, c.user, c.tok)
		if e != c.want || e != api.OK && n != 0 {
			t.Errorf("P23.2: case %d: %d, %d; not %d", i, n, e, c.want)
		}
	}
}

// act changes something of two users and two feeds.
func act(r *rand.Rand, x *txn.Txn) {
	user, name := []string{"u", "v"}[r.Intn(2)], []string{"x", "y"}[r.Intn(2)]
	switch r.Intn(8) {
	case 0:
		subs.Add(x, user, name)
	case 1:
		subs.Remove(x, user, name)
	case 2, 3:
		subs.Subscribe(x, user, name, []string{"", "x"}[r.Intn(2)])
	case 4:
		if r.Intn(3) == 0 {
			subs.Unsubscribe(x, user, name)
		}
	case 5:
		marks.Read(x, user, name, r.Intn(5), r.Intn(2) == 0)
	case 6:
		marks.Before(x, user, name, r.Intn(12))
	case 7:
		come(x, name, r.Intn(10), r.Intn(4))
	}
}

// client has what it was told, and its last token.
type client struct {
	has *omap.Map[string, string]
	tok string
}

// ask sends the last token, and takes the answer, if it is not lost.
func (c *client) ask(t *testing.T, b *base.Base, limit int, lost bool) delta.Page {
	t.Helper()
	p, e := delta.Next(b, "u", c.tok, limit)
	if e == api.ErrExpired {
		c.has, c.tok = nil, ""
		p, e = delta.Next(b, "u", "", limit)
	}
	if e != api.OK || len(p.Changes) > limit {
		t.Fatalf("P23.1: %d changes, %d", len(p.Changes), e)
	}
	if !lost {
		c.has, c.tok = diff.Fold(c.has, p.Changes), p.Next
	}
	return p
}

// TestClient lets a client ask while things change, answers are lost, and versions dropped.
func TestClient(t *testing.T) {
	r := rand.New(rand.NewSource(23))
	for range 60 {
		b, c := fresh(t), &client{}
		for range 60 {
			commit(t, b, func(x *txn.Txn) { act(r, x) })
			if r.Intn(9) == 0 {
				b.Prune(b.Now() - r.Intn(5))
			}
			for range r.Intn(4) {
				p := c.ask(t, b, 1+r.Intn(4), r.Intn(3) == 0)
				if got := maps.Collect(diff.Fold(c.has, nil).All()); c.tok == p.Next && !p.More && !maps.Equal(got, at(b, "u", p.At)) {
					t.Fatalf("P23.4: at %d: %v, not %v", p.At, got, at(b, "u", p.At))
				}
			}
		}
		finish(t, b, c, 1+r.Intn(5))
	}
}

// finish asks for the rest, with nothing committed meanwhile.
func finish(t *testing.T, b *base.Base, c *client, limit int) {
	t.Helper()
	if c.tok != "" {
		if x, _ := token.Parse(c.tok); x.Key != "" {
			for c.ask(t, b, limit, false).More {
			}
		}
	}
	if _, e := delta.Pending(b, "u", c.tok); e == api.ErrExpired {
		c.has, c.tok = nil, ""
	}
	n, e := delta.Pending(b, "u", c.tok)
	if e != api.OK {
		t.Fatalf("P23.2: %d", e)
	}
	for i := range (n + limit - 1) / limit {
		again := *c
		if p, q := c.ask(t, b, limit, false), again.ask(t, b, limit, true); p.Next != q.Next || !slices.Equal(p.Changes, q.Changes) || p.More != q.More || p.More != ((i+1)*limit < n) {
			t.Fatalf("P23.4: page %d of %d changes: %+v, %+v", i, n, p, q)
		}
	}
	if p := c.ask(t, b, limit, false); len(p.Changes) > 0 || p.More {
		t.Fatalf("P23.4: behind the last page: %+v", p)
	}
	if got := maps.Collect(diff.Fold(c.has, nil).All()); !maps.Equal(got, at(b, "u", b.Now())) {
		t.Fatalf("P23.4: %v, not %v", got, at(b, "u", b.Now()))
	}
}

func TestNewMemory(t *testing.T) {
	b := history(t)
	p, _ := delta.Next(b, "u", "", 3)
	q, _ := delta.Next(b, "u", "", 3)
	p.Changes[0].Key = "spoilt"
	_ = append(p.Changes[:1], change{Key: "spoilt"})
	if q.Changes[0].Key != "d/a" || q.Changes[1].Key != "e/x/000000" {
		t.Errorf("P23.3: answers share memory: %v", q.Changes)
	}
}
