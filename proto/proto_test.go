package proto_test

import (
	"bytes"
	"math"
	"slices"
	"strconv"
	"strings"
	"testing"

	"handbill/api"
	"handbill/delta"
	"handbill/diff"
	"handbill/json"
	"handbill/list"
	"handbill/proto"
	"handbill/subs"
)

// good tells a request of each operation, and its text.
func good() map[string]proto.Request {
	return map[string]proto.Request{
		`{"op":"begin","user":"u"}`:                                    {Op: "begin", User: "u"},
		`{"op":"commit","tx":5}`:                                       {Op: "commit", Tx: 5},
		`{"op":"abort","tx":-5}`:                                       {Op: "abort", Tx: -5},
		`{"op":"subs","tx":0}`:                                         {Op: "subs"},
		`{"feed":"x","name":"d","op":"subscribe","tx":5}`:              {Op: "subscribe", Tx: 5, Feed: "x", Name: "d"},
		`{"feed":"x","op":"unsubscribe","tx":5}`:                       {Op: "unsubscribe", Tx: 5, Feed: "x"},
		`{"feed":"","op":"unread","tx":5}`:                             {Op: "unread", Tx: 5},
		`{"name":"é\n","op":"folder","tx":5}`:                          {Op: "folder", Tx: 5, Name: "é\n"},
		`{"name":"d","op":"unfolder","tx":5}`:                          {Op: "unfolder", Tx: 5, Name: "d"},
		`{"entry":7,"feed":"x","on":true,"op":"read","tx":5}`:          {Op: "read", Tx: 5, Feed: "x", Entry: 7, On: true},
		`{"entry":7,"feed":"x","on":false,"op":"star","tx":5}`:         {Op: "star", Tx: 5, Feed: "x", Entry: 7},
		`{"before":9,"feed":"x","op":"mark","tx":5}`:                   {Op: "mark", Tx: 5, Feed: "x", Before: 9},
		`{"after":-1,"feed":"x","limit":2,"op":"list","tx":5}`:         {Op: "list", Tx: 5, Feed: "x", After: -1, Limit: 2},
		`{"limit":9007199254740991,"op":"sync","token":"","user":"u"}`: {Op: "sync", User: "u", Limit: 1<<53 - 1},
		`{"limit":1,"op":"sync","token":"00","user":""}`:               {Op: "sync", Token: "00", Limit: 1},
	}
}

func TestFields(t *testing.T) {
	for op, want := range map[string]string{"begin": "user", "commit": "tx", "abort": "tx", "subs": "tx", "subscribe": "feed name tx", "unsubscribe": "feed tx", "unread": "feed tx", "folder": "name tx", "unfolder": "name tx",
		"read": "entry feed on tx", "star": "entry feed on tx", "mark": "before feed tx", "list": "after feed limit tx", "sync": "limit token user", "": "", "op": "", "Begin": "", "begin ": "", "ingest": ""} {
		if got := strings.Join(proto.Fields(op), " "); got != want {
			t.Errorf("P24.1: Fields(%q): %s", op, got)
		}
	}
	l := proto.Fields("list")
	l[0] = "spoilt"
	_ = append(l[:1], "spoilt")
	if got := strings.Join(proto.Fields("list"), " "); got != "after feed limit tx" {
		t.Errorf("P24.3: Fields share memory: %s", got)
	}
}

func TestParseAndPrint(t *testing.T) {
	for text, r := range good() {
		b := []byte(text)
		if got, e := proto.Parse(b); got != r || e != api.OK {
			t.Errorf("P24.1: Parse(%s) = %+v, %d", text, got, e)
		}
		if string(b) != text {
			t.Error("P24.3: Parse changes what is handed in")
		}
		if got, e := proto.Print(r); string(got) != text || e != api.OK {
			t.Errorf("P24.1: Print(%+v) = %s, %d", r, got, e)
		}
	}
	if r, e := proto.Parse([]byte(" {\"tx\" : 5, \"op\":\"\\u0063ommit\" }\n")); r != (proto.Request{Op: "commit", Tx: 5}) || e != api.OK {
		t.Errorf("P24.1: %+v, %d", r, e)
	}
}

func TestParseWrong(t *testing.T) {
	for text, want := range map[string]api.Errno{
		"": api.ErrShort, `{"op":"begin"`: api.ErrShort, "x": api.ErrForm, `{"op":"begin","user":"u"}x`: api.ErrForm, `{"op":"begin","op":"begin","user":"u"}`: api.ErrForm, `{"op":"commit","tx":1.5}`: api.ErrForm, `{"op":"commit","tx":9007199254740992}`: api.ErrRange,
		strings.Repeat(" ", api.MaxDoc+1): api.ErrLong, strings.Repeat("[", 65): api.ErrDepth, `{"op":"` + strings.Repeat("a", api.MaxText+1) + `"}`: api.ErrLong,
		"[]": api.ErrForm, "null": api.ErrForm, `"begin"`: api.ErrForm, "1": api.ErrForm, "{}": api.ErrForm, `{"user":"u"}`: api.ErrForm, `{"op":1}`: api.ErrForm, `{"op":null,"user":"u"}`: api.ErrForm, `{"op":["begin"]}`: api.ErrForm, `{"Op":"begin","user":"u"}`: api.ErrForm,
		`{"op":"none"}`: api.ErrOp, `{"op":""}`: api.ErrOp, `{"op":"Begin","user":"u"}`: api.ErrOp, `{"op":"none","user":1}`: api.ErrOp,
		`{"op":"begin"}`: api.ErrForm, `{"op":"begin","user":"u","tx":1}`: api.ErrForm, `{"op":"begin","tx":1}`: api.ErrForm, `{"op":"begin","user":1}`: api.ErrForm, `{"op":"begin","user":null}`: api.ErrForm, `{"op":"begin","user":["u"]}`: api.ErrForm, `{"op":"begin","other":"u"}`: api.ErrForm,
		`{"op":"commit","tx":"1"}`: api.ErrForm, `{"op":"commit","tx":true}`: api.ErrForm, `{"op":"commit","tx":null}`: api.ErrForm, `{"op":"commit"}`: api.ErrForm, `{"op":"commit","Tx":1}`: api.ErrForm,
		`{"op":"read","tx":1,"feed":"x","entry":1,"on":1}`: api.ErrForm, `{"op":"read","tx":1,"feed":"x","entry":1,"on":"true"}`: api.ErrForm, `{"op":"read","tx":1,"feed":"x","entry":1,"on":null}`: api.ErrForm, `{"op":"read","tx":1,"feed":"x","entry":1}`: api.ErrForm, `{"op":"read","tx":1,"feed":"x","entry":"1","on":true}`: api.ErrForm,
		`{"op":"read","tx":1,"feed":"x","entry":1,"on":true,"name":""}`: api.ErrForm, `{"op":"sync","user":"u","token":0,"limit":1}`: api.ErrForm, `{"op":"sync","user":"u","limit":1}`: api.ErrForm, `{"op":"list","tx":1,"feed":"x","after":0,"limit":false}`: api.ErrForm, `{"op":"mark","tx":1,"feed":"x","before":{}}`: api.ErrForm,
	} {
		if r, e := proto.Parse([]byte(text)); r != (proto.Request{}) || e != want {
			t.Errorf("P24.1: Parse(%.60s) = %+v, %d; not %d", text, r, e, want)
		}
	}
	// Each operation needs each of its fields, and no other one.
	for text, r := range good() {
		v, _ := json.Parse([]byte(text))
		for i := range v.M {
			less := json.Copy(v)
			less.M = slices.Delete(less.M, i, i+1)
			b, _ := json.Print(less)
			if _, e := proto.Parse(b); e != api.ErrForm {
				t.Errorf("P24.1: %s: %d", b, e)
			}
		}
		for _, name := range []string{"after", "before", "entry", "feed", "limit", "name", "on", "token", "tx", "user", "zz"} {
			if slices.Contains(proto.Fields(r.Op), name) {
				continue
			}
			if _, e := proto.Parse([]byte(text[:len(text)-1] + `,"` + name + `":0}`)); e != api.ErrForm {
				t.Errorf("P24.1: %s with %s: %d", text, name, e)
			}
		}
	}
}

func TestPrintWrong(t *testing.T) {
	long := strings.Repeat("a", api.MaxText+1)
	for i, c := range []struct {
		r    proto.Request
		want api.Errno
	}{
		{proto.Request{}, api.ErrOp}, {proto.Request{Op: "none"}, api.ErrOp}, {proto.Request{Op: "none", User: "\xff"}, api.ErrOp}, {proto.Request{Op: "begin", User: "\xff"}, api.ErrForm}, {proto.Request{Op: "begin", User: long}, api.ErrForm},
		{proto.Request{Op: "commit", Tx: 1 << 53}, api.ErrForm}, {proto.Request{Op: "commit", Tx: -1 << 53}, api.ErrForm}, {proto.Request{Op: "commit", Tx: math.MaxInt}, api.ErrForm}, {proto.Request{Op: "list", Tx: 1, Feed: "x", After: math.MinInt}, api.ErrForm},
		{proto.Request{Op: "begin", User: "u", Tx: 1}, api.ErrForm}, {proto.Request{Op: "begin", User: "u", Feed: "x"}, api.ErrForm}, {proto.Request{Op: "begin", User: "u", Name: "d"}, api.ErrForm}, {proto.Request{Op: "begin", User: "u", Token: "t"}, api.ErrForm},
		{proto.Request{Op: "begin", User: "u", Entry: 1}, api.ErrForm}, {proto.Request{Op: "begin", User: "u", After: -1}, api.ErrForm}, {proto.Request{Op: "begin", User: "u", Limit: 1}, api.ErrForm}, {proto.Request{Op: "begin", User: "u", Before: 1}, api.ErrForm},
		{proto.Request{Op: "begin", User: "u", On: true}, api.ErrForm}, {proto.Request{Op: "sync", User: "u", Token: "\xff"}, api.ErrForm}, {proto.Request{Op: "folder", Tx: 1, Name: "\xff"}, api.ErrForm}, {proto.Request{Op: "read", Tx: 1, User: "u"}, api.ErrForm},
	} {
		if b, e := proto.Print(c.r); len(b) > 0 || e != c.want {
			t.Errorf("P24.1: Print, case %d: %s, %d", i, b, e)
		}
	}
}

func TestShortAnswers(t *testing.T) {
	const form = `{"error":4,"ok":false}`
	for want, got := range map[string][]byte{
		`{"error":13,"ok":false}`: proto.Fail(api.ErrTx), `{"error":0,"ok":false}`: proto.Fail(api.OK), `{"error":-7,"ok":false}`: proto.Fail(-7), `{"ok":true}`: proto.Done(), `{"at":5,"ok":true}`: proto.Number("at", 5), `{"ok":true,"tx":1048577}`: proto.Number("tx", 1048577),
		`{"ok":true,"unread":0}`: proto.Number("unread", 0), `{"ok":true,"unread":-1}`: proto.Number("unread", -1), `{"ok":true,"tx":9007199254740991}`: proto.Number("tx", 1<<53-1),
	} {
		if string(got) != want {
			t.Errorf("P24.2: %s, not %s", got, want)
		}
	}
	for i, got := range [][]byte{proto.Fail(1 << 53), proto.Fail(math.MinInt), proto.Number("", 1), proto.Number("ok", 1), proto.Number("At", 1), proto.Number("error", 1), proto.Number("at", 1<<53), proto.Number("tx", math.MinInt), proto.Number("unread", math.MaxInt), proto.Number("\xff", 1)} {
		if string(got) != form {
			t.Errorf("P24.2: case %d: %s", i, got)
		}
	}
}

func TestLists(t *testing.T) {
	const form = `{"error":4,"ok":false}`
	long := strings.Repeat("a", api.MaxText+1)
	entry := api.Entry{Num: 7, GUID: "g", Title: "t\"", Link: "l", When: 9}
	for want, got := range map[string][]byte{
		`{"ok":true,"subs":[]}`: proto.Subs(nil),
		`{"ok":true,"subs":[{"feed":"x","folder":"d","title":"T"},{"feed":"","folder":"","title":""}]}`: proto.Subs([]subs.Sub{{Feed: "x", Folder: "d", Title: "T"}, {}}),
		`{"items":[],"more":false,"ok":true}`: proto.Items(nil, false), `{"items":[],"more":true,"ok":true}`: proto.Items([]list.Item{}, true),
		`{"items":[{"guid":"g","link":"l","num":7,"read":true,"star":false,"title":"t\"","when":9},{"guid":"","link":"","num":-1,"read":false,"star":true,"title":"","when":0}],"more":true,"ok":true}`: proto.Items([]list.Item{{Entry: entry, Read: true}, {Entry: api.Entry{Num: -1}, Star: true}}, true),
		`{"at":0,"changes":[],"more":false,"next":"","ok":true}`: proto.Page(delta.Page{}),
		`{"at":5,"changes":[{"key":"b","value":"{}"},{"key":"a","value":null},{"key":"","value":""}],"more":true,"next":"00","ok":true}`: proto.Page(delta.Page{At: 5, More: true, Next: "00",
			Changes: []diff.Change[string]{{Key: "b", Val: "{}"}, {Key: "a", Gone: true}, {}}}),
	} {
		if string(got) != want {
			t.Errorf("P24.2: %s, not %s", got, want)
		}
		if v, e := json.Parse(got); e != api.OK {
			t.Errorf("P24.4: %s: %d", got, e)
		} else if again, _ := json.Print(v); !bytes.Equal(again, got) {
			t.Errorf("P24.4: %s is printed %s", got, again)
		}
	}
	for i, got := range [][]byte{
		proto.Subs([]subs.Sub{{Feed: "\xff"}}), proto.Subs([]subs.Sub{{}, {Title: long}}), proto.Subs([]subs.Sub{{Folder: "\xff"}}), proto.Items([]list.Item{{Entry: api.Entry{GUID: "\xff"}}}, false), proto.Items([]list.Item{{Entry: api.Entry{When: 1 << 53}}}, false),
		proto.Items([]list.Item{{Entry: api.Entry{Num: math.MinInt}}}, false), proto.Items([]list.Item{{Entry: api.Entry{Title: long}}}, false), proto.Page(delta.Page{At: 1 << 53}), proto.Page(delta.Page{Next: "\xff"}), proto.Page(delta.Page{Next: long}),
		proto.Page(delta.Page{Changes: []diff.Change[string]{{Key: "\xff"}}}), proto.Page(delta.Page{Changes: []diff.Change[string]{{Val: long}}}),
	} {
		if string(got) != form {
			t.Errorf("P24.2: case %d: %.60s", i, got)
		}
	}
	many := make([]list.Item, 500)
	for i := range many {
		many[i].Entry = api.Entry{Num: i, GUID: strconv.Itoa(i), Title: long[:500]}
	}
	if b := proto.Items(many, false); len(b) < 500*500 || !bytes.HasSuffix(b, []byte(`}],"more":false,"ok":true}`)) {
		t.Errorf("P24.2: a long answer: %d bytes", len(b))
	}
}

func TestNewMemory(t *testing.T) {
	a, b := proto.Done(), proto.Done()
	clear(a[:cap(a)])
	if string(b) != `{"ok":true}` || string(proto.Done()) != `{"ok":true}` {
		t.Errorf("P24.3: answers share memory: %q", b)
	}
	l := []list.Item{{Entry: api.Entry{Num: 1}}}
	p := delta.Page{Changes: []diff.Change[string]{{Key: "a", Gone: true, Val: "x"}}}
	s := []subs.Sub{{Feed: "x"}}
	proto.Items(l, true)
	proto.Page(p)
	proto.Subs(s)
	if l[0] != (list.Item{Entry: api.Entry{Num: 1}}) || p.Changes[0] != (diff.Change[string]{Key: "a", Gone: true, Val: "x"}) || s[0] != (subs.Sub{Feed: "x"}) {
		t.Error("P24.3: what is handed in is changed")
	}
}
