package server_test

import (
	"slices"
	"strconv"
	"strings"
	"testing"

	"handbill/api"
	"handbill/disk"
	"handbill/json"
	"handbill/server"
	"handbill/token"
)

func fresh() *disk.Disk {
	d, _ := disk.New(1 << 24)
	return d
}

func start(t *testing.T, d *disk.Disk) *server.Server {
	t.Helper()
	s, e := server.New(d, 4096)
	if e != api.OK || s == nil {
		t.Fatalf("P25.1: New: %d", e)
	}
	return s
}

func ask(s *server.Server, text string) string { return string(s.Handle([]byte(text))) }

func answers(t *testing.T, s *server.Server, text, want string) {
	t.Helper()
	if got := ask(s, text); got != want {
		t.Errorf("P25.2: %s: %s, not %s", text, got, want)
	}
}

func fail(e api.Errno) string { return `{"error":` + strconv.Itoa(int(e)) + `,"ok":false}` }

const done = `{"ok":true}`

// number tells a number of an answer, -1 if it has none.
func number(answer, name string) int {
	v, _ := json.Parse([]byte(answer))
	n, ok := json.Get(v, name)
	if !ok {
		return -1
	}
	return n.N
}

// begin begins a transaction, and tells its number as text.
func begin(t *testing.T, s *server.Server, user string) string {
	t.Helper()
	tx := number(ask(s, `{"op":"begin","user":"`+user+`"}`), "tx")
	if tx < 0 {
		t.Fatalf("P25.2: begin")
	}
	return strconv.Itoa(tx)
}

// in asks within a transaction: of a text {"op":..} with the field tx put in.
func in(s *server.Server, tx, text string) string {
	return ask(s, text[:len(text)-1]+`,"tx":`+tx+`}`)
}

func inAnswers(t *testing.T, s *server.Server, tx, text, want string) {
	t.Helper()
	if got := in(s, tx, text); got != want {
		t.Errorf("P25.2: %s: %s, not %s", text, got, want)
	}
}

func commit(t *testing.T, s *server.Server, tx string) int {
	t.Helper()
	n := number(in(s, tx, `{"op":"commit"}`), "at")
	if n < 0 {
		t.Errorf("P25.2: commit of %s", tx)
	}
	return n
}

// doc tells a document of so many items, from the first one on.
func doc(title string, from, n int) []byte {
	s := "<rss><channel><title>" + title + "</title>"
	for i := from; i < from+n; i++ {
		s += "<item><guid>g" + strconv.Itoa(i) + "</guid><title>t" + strconv.Itoa(i) + "</title><pubDate>1 Jan 1970 00:00:" + strconv.Itoa(10+i%50) + " GMT</pubDate></item>"
	}
	return []byte(s + "</channel></rss>")
}

func ingests(t *testing.T, s *server.Server, name string, b []byte, want int, e api.Errno) {
	t.Helper()
	if n, got := s.Ingest(name, b); n != want || got != e {
		t.Errorf("P25.3: Ingest: %d, %d; not %d, %d", n, got, want, e)
	}
}

func TestNew(t *testing.T) {
	d := fresh()
	for boot := 1; boot < 4; boot++ {
		s := start(t, d)
		if s.Boot() != boot || len(s.Open()) > 0 || s.Base() == nil || s.Base().Disk() != d || s.Base().Now() != boot {
			t.Errorf("P25.1: boot %d: %d", boot, s.Boot())
		}
		if v, _ := s.Base().Begin().Get("boot"); v != strconv.Itoa(boot) {
			t.Errorf("P25.1: the row: %s", v)
		}
		answers(t, s, `{"op":"begin","user":"u"}`, `{"ok":true,"tx":`+strconv.Itoa(boot<<20+1)+`}`)
		answers(t, s, `{"op":"begin","user":"v"}`, `{"ok":true,"tx":`+strconv.Itoa(boot<<20+2)+`}`)
	}
	for row, want := range map[string]api.Errno{"1": api.OK, "1073741823": api.OK, "1073741824": api.OK, "1073741825": api.ErrForm, "0": api.ErrForm, "-1": api.ErrForm, "+1": api.ErrForm, "01": api.ErrForm, "": api.ErrForm, " 1": api.ErrForm, "1 ": api.ErrForm,
		"x": api.ErrForm, "1.0": api.ErrForm, "99999999999999999999": api.ErrForm, "1_0": api.ErrForm, "0x1": api.ErrForm} {
		d := fresh()
		b := start(t, d).Base()
		x := b.Begin()
		x.Put("boot", row)
		b.Commit(x)
		s, e := server.New(d, 4096)
		if e != want || (s == nil) == (want == api.OK) {
			t.Errorf("P25.1: the row %q: %d", row, e)
		}
		if n, _ := strconv.Atoi(row); want == api.OK && s.Boot() != n+1 {
			t.Errorf("P25.1: behind %q: %d", row, s.Boot())
		}
	}
}

func TestNewErrors(t *testing.T) {
	if s, e := server.New(fresh(), 15); s != nil || e != api.ErrRange {
		t.Errorf("P25.1: a small segment: %d", e)
	}
	small, _ := disk.New(5)
	if s, e := server.New(small, 4096); s != nil || e != api.ErrFull {
		t.Errorf("P25.1: no room: %d", e)
	}
	d := fresh()
	d.Append("c", []byte("x"))
	if s, e := server.New(d, 4096); s != nil || e != api.ErrSum {
		t.Errorf("P25.1: a torn checkpoint: %d", e)
	}
	d = fresh()
	d.Crash(0, 0)
	if s, e := server.New(d, 4096); s != nil || e != api.ErrDown {
		t.Errorf("P25.1: down: %d", e)
	}
	// However the first New falls, the next one comes up, with a boot of its own.
	for n := 1; ; n++ {
		d := fresh()
		d.Plan([]disk.Event{{At: n, Kind: disk.Crashed, Keep: n % 2}})
		s, e := server.New(d, 4096)
		if e == api.OK {
			break
		}
		d.Reboot()
		if s != nil || e != api.ErrDown || start(t, d).Boot() > 2 {
			t.Errorf("P25.1: a crash at call %d: %d", n, e)
		}
	}
}

func TestBegin(t *testing.T) {
	s := start(t, fresh())
	for _, user := range []string{"", "U", "a/b", strings.Repeat("u", 21)} {
		answers(t, s, `{"op":"begin","user":"`+user+`"}`, fail(api.ErrName))
	}
	var want []int
	for i := range api.MaxSess {
		tx := begin(t, s, "u")
		want = append(want, 1048577+i)
		if tx != strconv.Itoa(want[i]) {
			t.Errorf("P25.2: tx %s", tx)
		}
	}
	if !slices.Equal(s.Open(), want) {
		t.Errorf("P25.1: Open: %v", s.Open())
	}
	answers(t, s, `{"op":"begin","user":"u"}`, fail(api.ErrLimit))
	answers(t, s, `{"op":"begin","user":"U"}`, fail(api.ErrName))
	inAnswers(t, s, "1048580", `{"op":"abort"}`, done)
	inAnswers(t, s, "1048580", `{"op":"abort"}`, fail(api.ErrTx))
	answers(t, s, `{"op":"begin","user":"u"}`, `{"ok":true,"tx":1048597}`)
	want = append(slices.Delete(want, 3, 4), 1048597)
	got := s.Open()
	if !slices.Equal(got, want) {
		t.Errorf("P25.1: Open: %v", got)
	}
	got[0] = 7
	_ = append(got[:1], 8)
	if !slices.Equal(s.Open(), want) {
		t.Error("P25.4: Open shares memory")
	}
}

func TestMostTransactions(t *testing.T) {
	s := start(t, fresh())
	for i := 1; i < 1<<20; i++ {
		tx := 1<<20 + i
		if got := ask(s, `{"op":"begin","user":"u"}`); got != `{"ok":true,"tx":`+strconv.Itoa(tx)+`}` {
			t.Fatalf("P25.2: %s", got)
		}
		if got := ask(s, `{"op":"abort","tx":`+strconv.Itoa(tx)+`}`); got != done {
			t.Fatalf("P25.2: %s", got)
		}
	}
	answers(t, s, `{"op":"begin","user":"u"}`, fail(api.ErrLimit))
	if len(s.Open()) > 0 {
		t.Errorf("P25.2: %v", s.Open())
	}
}

func TestWrongRequests(t *testing.T) {
	s := start(t, fresh())
	begin(t, s, "u")
	for text, e := range map[string]api.Errno{
		"": api.ErrShort, "x": api.ErrForm, "[]": api.ErrForm, `{"op":"none"}`: api.ErrOp, `{"op":"begin"}`: api.ErrForm, `{"op":"commit","tx":1048577.5}`: api.ErrForm, `{"op":"commit","tx":9007199254740992}`: api.ErrRange,
		strings.Repeat(" ", api.MaxDoc+1): api.ErrLong, strings.Repeat("[", 65): api.ErrDepth, `{"op":"commit","tx":0}`: api.ErrTx, `{"op":"commit","tx":1048578}`: api.ErrTx, `{"op":"abort","tx":-1}`: api.ErrTx, `{"op":"subs","tx":2097153}`: api.ErrTx,
		`{"op":"list","tx":1,"feed":"X","after":-9,"limit":0}`: api.ErrTx, `{"op":"unread","tx":1,"feed":"X"}`: api.ErrTx, `{"op":"read","tx":1,"feed":"X","entry":0,"on":true}`: api.ErrTx, `{"op":"star","tx":1,"feed":"X","entry":0,"on":true}`: api.ErrTx,
		`{"op":"mark","tx":1,"feed":"X","before":0}`: api.ErrTx, `{"op":"folder","tx":1,"name":"X"}`: api.ErrTx, `{"op":"unfolder","tx":1,"name":"X"}`: api.ErrTx, `{"op":"subscribe","tx":1,"feed":"X","name":""}`: api.ErrTx, `{"op":"unsubscribe","tx":1,"feed":"X"}`: api.ErrTx,
		`{"op":"sync","user":"U","token":"x","limit":0}`: api.ErrName, `{"op":"sync","user":"u","token":"x","limit":0}`: api.ErrRange, `{"op":"sync","user":"u","token":"x","limit":5}`: api.ErrToken,
	} {
		answers(t, s, text, fail(e))
	}
	if !slices.Equal(s.Open(), []int{1048577}) {
		t.Errorf("P25.2: %v", s.Open())
	}
}

func TestWithin(t *testing.T) {
	s := start(t, fresh())
	ingests(t, s, "x", doc("X", 0, 3), 3, api.OK)
	ingests(t, s, "y", doc("", 0, 0), 0, api.OK)
	tx := begin(t, s, "u")
	for _, c := range [][2]string{
		{`{"op":"subs"}`, `{"ok":true,"subs":[]}`}, {`{"op":"folder","name":"d"}`, done}, {`{"op":"folder","name":"d"}`, fail(api.ErrExists)}, {`{"op":"folder","name":"D"}`, fail(api.ErrName)}, {`{"op":"folder","name":"e"}`, done},
		{`{"op":"unfolder","name":"e"}`, done}, {`{"op":"unfolder","name":"e"}`, fail(api.ErrNone)}, {`{"op":"unfolder","name":""}`, fail(api.ErrName)},
		{`{"op":"subscribe","feed":"x","name":"e"}`, fail(api.ErrNone)}, {`{"op":"subscribe","feed":"z","name":""}`, fail(api.ErrNone)}, {`{"op":"subscribe","feed":"X","name":""}`, fail(api.ErrName)}, {`{"op":"subscribe","feed":"x","name":"d"}`, done},
		{`{"op":"subscribe","feed":"y","name":""}`, done}, {`{"op":"unfolder","name":"d"}`, fail(api.ErrExists)},
		{`{"op":"subs"}`, `{"ok":true,"subs":[{"feed":"x","folder":"d","title":"X"},{"feed":"y","folder":"","title":""}]}`},
		{`{"op":"unsubscribe","feed":"y"}`, done}, {`{"op":"unsubscribe","feed":"y"}`, fail(api.ErrNone)}, {`{"op":"unsubscribe","feed":"Y"}`, fail(api.ErrName)},
		{`{"op":"unread","feed":"x"}`, `{"ok":true,"unread":3}`}, {`{"op":"unread","feed":"y"}`, fail(api.ErrNone)}, {`{"op":"unread","feed":"Y"}`, fail(api.ErrName)},
		{`{"op":"read","feed":"x","entry":1,"on":true}`, done}, {`{"op":"read","feed":"x","entry":3,"on":true}`, fail(api.ErrNone)}, {`{"op":"read","feed":"","entry":1,"on":true}`, fail(api.ErrName)}, {`{"op":"star","feed":"x","entry":2,"on":true}`, done}, {`{"op":"star","feed":"x","entry":-1,"on":true}`, fail(api.ErrNone)},
		{`{"op":"star","feed":"x","entry":0,"on":true}`, done}, {`{"op":"star","feed":"x","entry":0,"on":false}`, done}, {`{"op":"unread","feed":"x"}`, `{"ok":true,"unread":2}`},
		{`{"op":"mark","feed":"x","before":10}`, done}, {`{"op":"mark","feed":"x","before":-1}`, fail(api.ErrRange)}, {`{"op":"mark","feed":"y","before":1}`, fail(api.ErrNone)}, {`{"op":"mark","feed":"Y","before":1}`, fail(api.ErrName)}, {`{"op":"unread","feed":"x"}`, `{"ok":true,"unread":1}`},
		{`{"op":"list","feed":"x","after":-1,"limit":2}`, `{"items":[{"guid":"g0","link":"","num":0,"read":true,"star":false,"title":"t0","when":10},{"guid":"g1","link":"","num":1,"read":true,"star":false,"title":"t1","when":11}],"more":true,"ok":true}`},
		{`{"op":"list","feed":"x","after":1,"limit":2}`, `{"items":[{"guid":"g2","link":"","num":2,"read":false,"star":true,"title":"t2","when":12}],"more":false,"ok":true}`},
		{`{"op":"list","feed":"x","after":-2,"limit":2}`, fail(api.ErrRange)}, {`{"op":"list","feed":"x","after":-1,"limit":51}`, fail(api.ErrRange)}, {`{"op":"list","feed":"y","after":-1,"limit":2}`, fail(api.ErrNone)}, {`{"op":"list","feed":"Y","after":-2,"limit":2}`, fail(api.ErrName)},
		{`{"op":"mark","feed":"x","before":99}`, done}, {`{"op":"unread","feed":"x"}`, `{"ok":true,"unread":0}`}, {`{"op":"read","feed":"x","entry":2,"on":false}`, done}, {`{"op":"read","feed":"x","entry":0,"on":false}`, done}, {`{"op":"unread","feed":"x"}`, `{"ok":true,"unread":2}`}, {`{"op":"commit"}`, `{"at":4,"ok":true}`}, {`{"op":"commit"}`, fail(api.ErrTx)}, {`{"op":"subs"}`, fail(api.ErrTx)},
	} {
		inAnswers(t, s, tx, c[0], c[1])
	}
	other := begin(t, s, "v")
	inAnswers(t, s, other, `{"op":"subs"}`, `{"ok":true,"subs":[]}`)
	inAnswers(t, s, other, `{"op":"commit"}`, `{"at":4,"ok":true}`)
	tx = begin(t, s, "u")
	inAnswers(t, s, tx, `{"op":"subs"}`, `{"ok":true,"subs":[{"feed":"x","folder":"d","title":"X"}]}`)
	inAnswers(t, s, tx, `{"op":"unread","feed":"x"}`, `{"ok":true,"unread":2}`)
}

func TestCommit(t *testing.T) {
	s := start(t, fresh())
	a, b, c := begin(t, s, "u"), begin(t, s, "u"), begin(t, s, "u")
	for _, tx := range []string{a, b, c} {
		inAnswers(t, s, tx, `{"op":"folder","name":"d"}`, done)
	}
	inAnswers(t, s, c, `{"op":"abort"}`, done)
	inAnswers(t, s, b, `{"op":"commit"}`, `{"at":2,"ok":true}`)
	inAnswers(t, s, a, `{"op":"commit"}`, fail(api.ErrClash))
	if len(s.Open()) > 0 {
		t.Errorf("P25.2: it is open no more, whatever it says: %v", s.Open())
	}
	inAnswers(t, s, a, `{"op":"commit"}`, fail(api.ErrTx))
	// Without room it stays open, and may be tried again.
	d := begin(t, s, "u")
	in(s, d, `{"op":"folder","name":"e"}`)
	disk1 := s.Base().Disk()
	disk1.Plan([]disk.Event{{At: disk1.Calls() + 1, Kind: disk.NoRoom}})
	inAnswers(t, s, d, `{"op":"commit"}`, fail(api.ErrFull))
	inAnswers(t, s, d, `{"op":"folder","name":"f"}`, done)
	inAnswers(t, s, d, `{"op":"commit"}`, `{"at":3,"ok":true}`)
	e := begin(t, s, "u")
	in(s, e, `{"op":"folder","name":"g"}`)
	disk1.Crash(0, 0)
	inAnswers(t, s, e, `{"op":"commit"}`, fail(api.ErrDown))
	inAnswers(t, s, e, `{"op":"commit"}`, fail(api.ErrTx))
}

func TestSync(t *testing.T) {
	s := start(t, fresh())
	next1, _ := token.Print(token.Token{User: "u", From: 1})
	answers(t, s, `{"op":"sync","user":"u","token":"","limit":1}`, `{"at":1,"changes":[],"more":false,"next":"`+next1+`","ok":true}`)
	tx := begin(t, s, "u")
	in(s, tx, `{"op":"folder","name":"d"}`)
	in(s, tx, `{"op":"folder","name":"e"}`)
	commit(t, s, tx)
	first := ask(s, `{"op":"sync","user":"u","token":"","limit":1}`)
	if !strings.HasPrefix(first, `{"at":2,"changes":[{"key":"d/d","value":"{}"}],"more":true,"next":"`) {
		t.Errorf("P25.2: sync: %s", first)
	}
	v, _ := json.Parse([]byte(first))
	next, _ := json.Get(v, "next")
	tx = begin(t, s, "u")
	in(s, tx, `{"op":"unfolder","name":"d"}`)
	commit(t, s, tx)
	second := ask(s, `{"op":"sync","user":"u","token":"`+next.S+`","limit":1}`)
	if !strings.HasPrefix(second, `{"at":2,"changes":[{"key":"d/e","value":"{}"}],"more":false,"next":"`) {
		t.Errorf("P25.2: sync: %s", second)
	}
	v, _ = json.Parse([]byte(second))
	last, _ := json.Get(v, "next")
	if got := ask(s, `{"op":"sync","user":"u","token":"`+last.S+`","limit":9}`); !strings.HasPrefix(got, `{"at":3,"changes":[{"key":"d/d","value":null}],"more":false,"next":"`) {
		t.Errorf("P25.2: sync: %s", got)
	}
	answers(t, s, `{"op":"sync","user":"v","token":"`+last.S+`","limit":9}`, fail(api.ErrToken))
	s.Prune()
	answers(t, s, `{"op":"sync","user":"u","token":"`+last.S+`","limit":9}`, fail(api.ErrExpired))
}

func TestIngest(t *testing.T) {
	s := start(t, fresh())
	ingests(t, s, "x", nil, 0, api.ErrShort)
	ingests(t, s, "x", []byte("<html/>"), 0, api.ErrForm)
	ingests(t, s, "X", doc("X", 0, 3), 0, api.ErrName)
	if now := s.Base().Now(); now != 1 {
		t.Errorf("P25.3: Now %d", now)
	}
	ingests(t, s, "x", doc("X", 0, 25), 25, api.OK)
	if now := s.Base().Now(); now != 4 {
		t.Errorf("P25.3: 10 at most in each transaction: Now %d", now)
	}
	ingests(t, s, "x", doc("X", 20, 15), 10, api.OK)
	if now := s.Base().Now(); now != 5 {
		t.Errorf("P25.3: Now %d", now)
	}
	ingests(t, s, "x", doc("", 0, 35), 0, api.OK)
	if now := s.Base().Now(); now != 5 {
		t.Errorf("P25.3: nothing to write: Now %d", now)
	}
	// What was committed ahead of an error is told.
	d := s.Base().Disk()
	d.Plan([]disk.Event{{At: d.Calls() + 3, Kind: disk.NoRoom}})
	ingests(t, s, "y", doc("Y", 0, 25), 10, api.ErrFull)
	d.Plan([]disk.Event{{At: d.Calls() + 2, Kind: disk.Crashed}})
	ingests(t, s, "y", doc("Y", 0, 25), 0, api.ErrDown)
	d.Reboot()
	s = start(t, d)
	tx := begin(t, s, "u")
	in(s, tx, `{"op":"subscribe","feed":"y","name":""}`)
	inAnswers(t, s, tx, `{"op":"unread","feed":"y"}`, `{"ok":true,"unread":10}`)
	ingests(t, s, "y", doc("Y", 0, 25), 15, api.OK)
	inAnswers(t, s, tx, `{"op":"unread","feed":"y"}`, `{"ok":true,"unread":10}`)
}

func TestPrune(t *testing.T) {
	s := start(t, fresh())
	for _, title := range []string{"A", "B", "C", "D"} {
		ingests(t, s, "x", doc(title, 0, 0), 0, api.OK)
	}
	old := begin(t, s, "u")
	ingests(t, s, "x", doc("E", 0, 0), 0, api.OK)
	young := begin(t, s, "u")
	ingests(t, s, "x", doc("F", 0, 0), 0, api.OK)
	if n := s.Prune(); n != 3 || s.Base().Low() != 5 {
		t.Errorf("P25.3: Prune: %d, Low %d", n, s.Base().Low())
	}
	in(s, old, `{"op":"subscribe","feed":"x","name":""}`)
	inAnswers(t, s, old, `{"op":"subs"}`, `{"ok":true,"subs":[{"feed":"x","folder":"","title":"D"}]}`)
	commit(t, s, old)
	if n := s.Prune(); n != 1 || s.Base().Low() != 6 {
		t.Errorf("P25.3: Prune: %d, Low %d", n, s.Base().Low())
	}
	in(s, young, `{"op":"abort"}`)
	if n := s.Prune(); n != 1 || s.Base().Low() != s.Base().Now() || s.Prune() != 0 {
		t.Errorf("P25.3: Prune: %d, Low %d", n, s.Base().Low())
	}
}

func TestCheck(t *testing.T) {
	d := fresh()
	s := start(t, d)
	ingests(t, s, "x", doc("X", 0, 25), 25, api.OK)
	if e := s.Check(); e != api.OK {
		t.Errorf("P25.3: Check: %d", e)
	}
	if _, ok := d.Peek("c"); !ok {
		t.Error("P25.3: Check makes no checkpoint")
	}
	d.Plan([]disk.Event{{At: d.Calls() + 1, Kind: disk.NoRoom}})
	if e := s.Check(); e != api.ErrFull {
		t.Errorf("P25.3: Check: %d", e)
	}
	s = start(t, d)
	if s.Boot() != 2 || s.Base().Low() != 4 {
		t.Errorf("P25.1: behind Check: boot %d, Low %d", s.Boot(), s.Base().Low())
	}
}

func TestNewMemory(t *testing.T) {
	s := start(t, fresh())
	b := []byte(`{"op":"begin","user":"u"}`)
	kept := string(b)
	a := s.Handle(b)
	if string(b) != kept {
		t.Error("P25.4: what is handed in is changed")
	}
	copy(b, strings.Repeat("?", len(b)))
	clear(a[:cap(a)])
	x := doc("X", 0, 1)
	ingests(t, s, "x", x, 1, api.OK)
	copy(x, strings.Repeat("?", len(x)))
	inAnswers(t, s, "1048577", `{"op":"subs"}`, `{"ok":true,"subs":[]}`)
	tx := begin(t, s, "u")
	in(s, tx, `{"op":"subscribe","feed":"x","name":""}`)
	inAnswers(t, s, tx, `{"op":"subs"}`, `{"ok":true,"subs":[{"feed":"x","folder":"","title":"X"}]}`)
}
