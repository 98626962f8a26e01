package server_test

import (
	"maps"
	"math/rand"
	"slices"
	"strconv"
	"strings"
	"testing"

	"handbill/api"
	"handbill/disk"
	"handbill/json"
	"handbill/server"
)

// client has what it was told by sync, and the last token that it received.
type client struct {
	user, tok string
	has       map[string]string
}

// ask sends the last token, and takes the answer, if it is not lost. It tells whether there is more.
func (c *client) ask(t *testing.T, s *server.Server, limit int, lost bool) bool {
	t.Helper()
	answer := ask(s, `{"op":"sync","user":"`+c.user+`","token":"`+c.tok+`","limit":`+strconv.Itoa(limit)+`}`)
	if answer == fail(api.ErrExpired) && c.tok != "" {
		c.tok, c.has = "", map[string]string{}
		return true
	}
	v, e := json.Parse([]byte(answer))
	changes, ok := json.Get(v, "changes")
	if e != api.OK || !ok || len(changes.L) > limit {
		t.Fatalf("P25.7: sync: %s", answer)
	}
	more, _ := json.Get(v, "more")
	if lost {
		return true
	}
	for _, x := range changes.L {
		key, _ := json.Get(x, "key")
		value, _ := json.Get(x, "value")
		if value.Kind == json.Null {
			delete(c.has, key.S)
		} else {
			c.has[key.S] = value.S
		}
	}
	next, _ := json.Get(v, "next")
	c.tok = next.S
	return more.Kind == json.True
}

// view tells all that a user sees now.
func view(t *testing.T, s *server.Server, user string) map[string]string {
	t.Helper()
	c := client{user: user, has: map[string]string{}}
	for c.ask(t, s, 50, false) {
	}
	return c.has
}

// reads asks all that may be read within a transaction.
func reads(s *server.Server, tx string) string {
	all := in(s, tx, `{"op":"subs"}`)
	for _, feed := range []string{"x", "y"} {
		all += in(s, tx, `{"op":"unread","feed":"`+feed+`"}`) + in(s, tx, `{"op":"list","feed":"`+feed+`","after":-1,"limit":50}`)
	}
	return all
}

// writes tells a request that writes something.
func writes(r *rand.Rand) string {
	feed := []string{"x", "y"}[r.Intn(2)]
	switch r.Intn(7) {
	case 0:
		return `{"op":"folder","name":"d"}`
	case 1:
		return `{"op":"unfolder","name":"d"}`
	case 2:
		return `{"op":"subscribe","feed":"` + feed + `","name":"` + []string{"", "d"}[r.Intn(2)] + `"}`
	case 3:
		return `{"op":"unsubscribe","feed":"` + feed + `"}`
	case 4:
		return `{"op":"mark","feed":"` + feed + `","before":` + strconv.Itoa(r.Intn(30)) + `}`
	}
	return `{"op":"` + []string{"read", "star"}[r.Intn(2)] + `","feed":"` + feed + `","entry":` + strconv.Itoa(r.Intn(6)) + `,"on":` + []string{"true", "false"}[r.Intn(2)] + `}`
}

// open is a transaction: what was read in it last, and whether it was of a time at which nothing was written in it.
type open struct {
	tx, user, last string
}

// TestSnapshots lets transactions go on side by side, with jobs between them. What is read in one changes by its own
// writes alone; whatever was refused or aborted is never to be seen.
func TestSnapshots(t *testing.T) {
	r := rand.New(rand.NewSource(25))
	for range 25 {
		s := start(t, fresh())
		var l []open
		folders := map[string]map[string]string{"u": {}, "v": {}}
		for i := range 120 {
			switch k := r.Intn(10); {
			case k < 2 && len(l) < 6:
				user := []string{"u", "v"}[r.Intn(2)]
				tx := begin(t, s, user)
				in(s, tx, `{"op":"folder","name":"t`+tx+`"}`)
				l = append(l, open{tx, user, reads(s, tx)})
			case k < 4:
				s.Ingest([]string{"x", "y"}[r.Intn(2)], doc("T"+strconv.Itoa(i), r.Intn(8), r.Intn(5)))
			case k == 4:
				s.Prune()
			case k == 5:
				s.Check()
			case len(l) > 0:
				n := r.Intn(len(l))
				x := &l[n]
				if got := reads(s, x.tx); got != x.last {
					t.Fatalf("P25.5: in %s: %s, not %s", x.tx, got, x.last)
				}
				if k < 9 {
					in(s, x.tx, writes(r))
					x.last = reads(s, x.tx)
					continue
				}
				ends(t, r, s, *x, folders)
				l = slices.Delete(l, n, n+1)
			}
		}
		for user, want := range folders {
			got := view(t, s, user)
			maps.DeleteFunc(got, func(key, _ string) bool { return !strings.HasPrefix(key, "d/t") })
			if !maps.Equal(got, want) {
				t.Fatalf("P25.5: %s sees %v, not %v", user, got, want)
			}
		}
	}
}

// ends commits a transaction or aborts it. Its own folder is to be seen just where the commit answered a time.
func ends(t *testing.T, r *rand.Rand, s *server.Server, x open, folders map[string]map[string]string) {
	t.Helper()
	if r.Intn(4) == 0 {
		inAnswers(t, s, x.tx, `{"op":"abort"}`, done)
		return
	}
	answer := in(s, x.tx, `{"op":"commit"}`)
	if number(answer, "at") > 0 {
		folders[x.user]["d/t"+x.tx] = "{}"
	} else if answer != fail(api.ErrClash) {
		t.Fatalf("P25.2: commit: %s", answer)
	}
}

// TestCrashes lets the machine fall at each call of a server's life, with each part of what is pending kept.
func TestCrashes(t *testing.T) {
	for n := 1; ; n++ {
		fell := false
		for keep := range 4 {
			for _, torn := range []int{-1, 0, 5, 6, 20, 39} {
				d := fresh()
				s, _ := server.New(d, 64)
				d.Plan([]disk.Event{{At: d.Calls() + n, Kind: disk.Crashed, Keep: keep, Torn: torn}})
				acked, last := live(t, s)
				fell = fell || !d.Up()
				d.Plan(nil)
				d.Crash(keep, torn)
				d.Reboot()
				comes(t, d, acked, last)
			}
		}
		if !fell || t.Failed() {
			return
		}
	}
}

// live makes pairs of folders, commit by commit, with jobs between. It tells how many pairs were answered a time, and
// that of the last one.
func live(t *testing.T, s *server.Server) (int, int) {
	t.Helper()
	last := 0
	for i := range 9 {
		tx := begin(t, s, "u")
		in(s, tx, `{"op":"folder","name":"a`+strconv.Itoa(i)+`"}`)
		in(s, tx, `{"op":"folder","name":"b`+strconv.Itoa(i)+`"}`)
		at := number(in(s, tx, `{"op":"commit"}`), "at")
		if at < 0 {
			return i, last
		}
		last = at
		if i%4 == 2 {
			s.Check()
		}
		if i%3 == 1 {
			s.Ingest("x", doc("X", i, 2))
			s.Prune()
		}
	}
	return 9, last
}

func comes(t *testing.T, d *disk.Disk, acked, last int) {
	t.Helper()
	s := start(t, d)
	if s.Base().Now() <= last || s.Boot() != 2 {
		t.Fatalf("P25.6: Now %d behind %d; boot %d", s.Base().Now(), last, s.Boot())
	}
	got := view(t, s, "u")
	pairs := len(got) / 2
	for i := range pairs {
		if got["d/a"+strconv.Itoa(i)] != "{}" || got["d/b"+strconv.Itoa(i)] != "{}" {
			t.Fatalf("P25.6: %v", got)
		}
	}
	if len(got)%2 != 0 || pairs != acked && pairs != acked+1 {
		t.Fatalf("P25.6: %d pairs were answered a time, but %v are there", acked, got)
	}
	answers(t, s, `{"op":"subs","tx":1048577}`, fail(api.ErrTx))
	if tx := begin(t, s, "u"); tx != "2097153" {
		t.Fatalf("P25.2: tx %s", tx)
	}
}

// TestTokens lets a client ask while things change, answers are lost, versions dropped, and machines fall.
func TestTokens(t *testing.T) {
	r := rand.New(rand.NewSource(26))
	for range 25 {
		d := fresh()
		s := start(t, d)
		c := &client{user: "u", has: map[string]string{}}
		for i := range 80 {
			switch r.Intn(12) {
			case 0, 1, 2, 3, 4:
				tx := begin(t, s, []string{"u", "u", "v"}[r.Intn(3)])
				for range r.Intn(5) {
					in(s, tx, writes(r))
				}
				commit(t, s, tx)
			case 5, 6:
				s.Ingest([]string{"x", "y"}[r.Intn(2)], doc("T"+strconv.Itoa(i), r.Intn(8), r.Intn(5)))
			case 7:
				if r.Intn(3) == 0 {
					s.Prune()
				}
			case 8:
				s.Check()
			case 9:
				if r.Intn(3) == 0 {
					d.Crash(r.Intn(3), r.Intn(5))
					d.Reboot()
					s = start(t, d)
				}
			default:
				c.ask(t, s, 1+r.Intn(4), r.Intn(2) == 0)
			}
		}
		// Nothing is committed from here on. A token with a Key leads to its own target first.
		for range 2 {
			for c.ask(t, s, 1+r.Intn(4), false) {
			}
		}
		if want := view(t, s, "u"); !maps.Equal(c.has, want) {
			t.Fatalf("P25.7: %v, not %v", c.has, want)
		}
	}
}

// TestMarks marks in a snapshot, while entries come that it does not see.
func TestMarks(t *testing.T) {
	s := start(t, fresh())
	ingests(t, s, "x", doc("X", 10, 5), 5, api.OK)
	tx := begin(t, s, "u")
	in(s, tx, `{"op":"subscribe","feed":"x","name":""}`)
	commit(t, s, tx)
	tx = begin(t, s, "u")
	ingests(t, s, "x", doc("X", 0, 4), 4, api.OK)
	inAnswers(t, s, tx, `{"op":"mark","feed":"x","before":22}`, done)
	inAnswers(t, s, tx, `{"op":"unread","feed":"x"}`, `{"ok":true,"unread":2}`)
	commit(t, s, tx)
	ingests(t, s, "x", doc("X", 4, 1), 1, api.OK)
	tx = begin(t, s, "u")
	v, _ := json.Parse([]byte(in(s, tx, `{"op":"list","feed":"x","after":-1,"limit":50}`)))
	items, _ := json.Get(v, "items")
	got := ""
	for _, x := range items.L {
		num, _ := json.Get(x, "num")
		if read, _ := json.Get(x, "read"); read.Kind == json.True {
			got += strconv.Itoa(num.N) + " "
		}
	}
	if got != "0 1 2 " || len(items.L) != 10 {
		t.Errorf("P25.8: read are %sof %d", got, len(items.L))
	}
	inAnswers(t, s, tx, `{"op":"unread","feed":"x"}`, `{"ok":true,"unread":7}`)
}
