package subs_test

import (
	"slices"
	"strconv"
	"strings"
	"testing"

	"handbill/api"
	"handbill/subs"
	"handbill/txn"
	"handbill/vers"
)

func want(t *testing.T, what string, got, e api.Errno) {
	t.Helper()
	if got != e {
		t.Errorf("%s: %d, not %d", what, got, e)
	}
}

// begin tells a transaction that sees feeds x, y and z, and one whose row is none.
func begin() *txn.Txn {
	s := vers.New[string]()
	s.Put(1, "f/x", `{"n":0,"title":"X"}`)
	s.Put(1, "f/y", `{"n":2,"title":"Y"}`)
	s.Put(1, "f/z", `{"n":0,"title":""}`)
	s.Put(1, "f/bad", `{}`)
	return txn.Begin(s, 1)
}

func all(x *txn.Txn, user string) []subs.Sub { return slices.Collect(subs.All(x, user)) }

func folders(x *txn.Txn, user string) string {
	return strings.Join(slices.Collect(subs.Folders(x, user)), " ")
}

var wrongNames = []string{"X", "a/b", "é", "a b", strings.Repeat("a", 21), "/"}

func TestNames(t *testing.T) {
	x := begin()
	for _, s := range append(slices.Clone(wrongNames), "") {
		want(t, "P17.1: Subscribe", subs.Subscribe(x, s, "x", ""), api.ErrName)
		want(t, "P17.1: Subscribe", subs.Subscribe(x, "u", s, ""), api.ErrName)
		want(t, "P17.1: Subscribe", subs.Subscribe(x, "u", s, "none"), api.ErrName)
		want(t, "P17.1: Unsubscribe", subs.Unsubscribe(x, s, "x"), api.ErrName)
		want(t, "P17.1: Unsubscribe", subs.Unsubscribe(x, "u", s), api.ErrName)
		want(t, "P17.1: Add", subs.Add(x, s, "d"), api.ErrName)
		want(t, "P17.1: Add", subs.Add(x, "u", s), api.ErrName)
		want(t, "P17.1: Remove", subs.Remove(x, s, "d"), api.ErrName)
		want(t, "P17.1: Remove", subs.Remove(x, "u", s), api.ErrName)
		if folder, ok := subs.Get(x, s, "x"); ok || folder != "" {
			t.Errorf("P17.2: Get of %q", s)
		}
		if folder, ok := subs.Get(x, "u", s); ok || folder != "" {
			t.Errorf("P17.2: Get of %q", s)
		}
		if subs.All(x, s) == nil || subs.Folders(x, s) == nil || len(all(x, s)) > 0 || folders(x, s) != "" {
			t.Errorf("P17.2: All, Folders of %q", s)
		}
	}
	for _, s := range wrongNames {
		want(t, "P17.1: Subscribe", subs.Subscribe(x, "u", "none", s), api.ErrName)
	}
	if len(x.Writes()) > 0 {
		t.Errorf("P0.2: %v", x.Writes())
	}
}

func TestSubscribe(t *testing.T) {
	x := begin()
	want(t, "P17.1: no such feed", subs.Subscribe(x, "u", "none", ""), api.ErrNone)
	want(t, "P17.1: a feed whose row is none", subs.Subscribe(x, "u", "bad", ""), api.ErrNone)
	want(t, "P17.1: no such folder", subs.Subscribe(x, "u", "x", "d"), api.ErrNone)
	if len(x.Writes()) > 0 {
		t.Errorf("P0.2: %v", x.Writes())
	}
	want(t, "P17.1: without folder", subs.Subscribe(x, "u", "y", ""), api.OK)
	want(t, "P17.1: Add", subs.Add(x, "u", "d"), api.OK)
	want(t, "P17.1: with a folder", subs.Subscribe(x, "u", "x", "d"), api.OK)
	want(t, "P17.1: another user's folder", subs.Subscribe(x, "v", "x", "d"), api.ErrNone)
	want(t, "P17.1: another user", subs.Subscribe(x, "v", "z", ""), api.OK)
	l := []api.Write{{Key: "d/u/d", Value: "{}"}, {Key: "s/u/x", Value: `{"folder":"d"}`}, {Key: "s/u/y", Value: `{"folder":""}`}, {Key: "s/v/z", Value: `{"folder":""}`}}
	if !slices.Equal(x.Writes(), l) {
		t.Errorf("P17.1: the rows: %v", x.Writes())
	}
	if got := all(x, "u"); !slices.Equal(got, []subs.Sub{{Feed: "x", Folder: "d", Title: "X"}, {Feed: "y", Title: "Y"}}) {
		t.Errorf("P17.2: All: %v", got)
	}
	if got := all(x, "v"); !slices.Equal(got, []subs.Sub{{Feed: "z"}}) {
		t.Errorf("P17.2: All: %v", got)
	}
	want(t, "P17.1: into another folder", subs.Subscribe(x, "u", "y", "d"), api.OK)
	want(t, "P17.1: into none", subs.Subscribe(x, "u", "x", ""), api.OK)
	for feed, folder := range map[string]string{"x": "", "y": "d"} {
		if got, ok := subs.Get(x, "u", feed); got != folder || !ok {
			t.Errorf("P17.2: Get(%s) = %q, %v", feed, got, ok)
		}
	}
	for _, feed := range []string{"z", "none"} {
		if got, ok := subs.Get(x, "u", feed); got != "" || ok {
			t.Errorf("P17.2: Get(%s) = %q, %v", feed, got, ok)
		}
	}
}

// TestFolderOnceMore: a subscription and the removal of its folder clash.
func TestFolderOnceMore(t *testing.T) {
	s := vers.New[string]()
	s.Put(1, "f/x", `{"n":0,"title":"X"}`)
	s.Put(1, "d/u/d", "{}")
	a, b := txn.Begin(s, 1), txn.Begin(s, 1)
	want(t, "P17.1: Subscribe", subs.Subscribe(a, "u", "x", "d"), api.OK)
	want(t, "P17.1: Remove", subs.Remove(b, "u", "d"), api.OK)
	if !slices.Equal(a.Writes(), []api.Write{{Key: "d/u/d", Value: "{}"}, {Key: "s/u/x", Value: `{"folder":"d"}`}}) {
		t.Errorf("P17.1: the folder's row once more: %v", a.Writes())
	}
	for _, w := range b.Writes() {
		s.Kill(2, w.Key)
	}
	if !a.Clash() {
		t.Error("P17.1: whoever removes the folder meanwhile clashes")
	}
}

func TestUnsubscribe(t *testing.T) {
	s := vers.New[string]()
	for key, row := range map[string]string{"f/x": `{"n":0,"title":"X"}`, "s/u/x": `{"folder":""}`, "s/u/xx": `{"folder":""}`, "s/v/x": `{"folder":""}`, "s/u/bad": `{"folder":"A"}`, "m/u/x": `{"marks":[[1,1]]}`, "m/u/xx": `{"marks":[]}`,
		"r/u/x/000001": `{"read":1,"star":0}`, "r/u/x/000007": `none`, "r/u/xx/000001": `{"read":1,"star":0}`, "r/v/x/000001": `{"read":1,"star":0}`} {
		s.Put(1, key, row)
	}
	x := txn.Begin(s, 1)
	want(t, "P17.1: not there", subs.Unsubscribe(x, "u", "none"), api.ErrNone)
	want(t, "P17.1: a row that is none", subs.Unsubscribe(x, "u", "bad"), api.ErrNone)
	want(t, "P17.1: not there", subs.Unsubscribe(x, "w", "x"), api.ErrNone)
	x.Put("r/u/x/000009", `{"read":1,"star":0}`)
	want(t, "P17.1: Unsubscribe", subs.Unsubscribe(x, "u", "x"), api.OK)
	l := []api.Write{{Key: "m/u/x", Gone: true}, {Key: "r/u/x/000001", Gone: true}, {Key: "r/u/x/000007", Gone: true}, {Key: "r/u/x/000009", Gone: true}, {Key: "s/u/x", Gone: true}}
	if !slices.Equal(x.Writes(), l) {
		t.Errorf("P17.1: what is deleted: %v", x.Writes())
	}
	want(t, "P17.1: once more", subs.Unsubscribe(x, "u", "x"), api.ErrNone)
	if got := all(x, "u"); !slices.Equal(got, []subs.Sub{{Feed: "xx"}}) {
		t.Errorf("P17.2: All: %v", got)
	}
	x = txn.Begin(s, 1)
	want(t, "P17.1: Unsubscribe", subs.Unsubscribe(x, "v", "x"), api.OK)
	if !slices.Equal(x.Writes(), []api.Write{{Key: "m/v/x", Gone: true}, {Key: "r/v/x/000001", Gone: true}, {Key: "s/v/x", Gone: true}}) {
		t.Errorf("P17.1: its marks, whether they are there or not: %v", x.Writes())
	}
}

func TestFolders(t *testing.T) {
	x := begin()
	for _, name := range []string{"b", "a", "c-1"} {
		want(t, "P17.1: Add", subs.Add(x, "u", name), api.OK)
	}
	want(t, "P17.1: Add of one that is there", subs.Add(x, "u", "a"), api.ErrExists)
	want(t, "P17.1: another user's", subs.Add(x, "uu", "a"), api.OK)
	if got := folders(x, "u"); got != "a b c-1" {
		t.Errorf("P17.2: Folders: %s", got)
	}
	if v, ok := x.Get("d/u/a"); v != "{}" || !ok {
		t.Errorf("P17.1: a folder's row: %s", v)
	}
	for name := range subs.Folders(x, "u") {
		if name != "a" {
			t.Errorf("P17.2: left early: %s", name)
		}
		break
	}
	want(t, "P17.1: Remove of none", subs.Remove(x, "u", "none"), api.ErrNone)
	want(t, "P17.1: Remove of another user's", subs.Remove(x, "v", "a"), api.ErrNone)
	subs.Subscribe(x, "u", "x", "b")
	subs.Subscribe(x, "uu", "x", "a")
	want(t, "P17.1: Remove of one that has something", subs.Remove(x, "u", "b"), api.ErrExists)
	want(t, "P17.1: Remove", subs.Remove(x, "u", "a"), api.OK)
	want(t, "P17.1: Remove once more", subs.Remove(x, "u", "a"), api.ErrNone)
	subs.Subscribe(x, "u", "x", "c-1")
	want(t, "P17.1: Remove of one that is empty again", subs.Remove(x, "u", "b"), api.OK)
	if got := folders(x, "u"); got != "c-1" {
		t.Errorf("P17.2: Folders: %s", got)
	}
	want(t, "P17.1: Remove", subs.Remove(x, "u", "c-1"), api.ErrExists)
	subs.Unsubscribe(x, "u", "x")
	want(t, "P17.1: Remove behind Unsubscribe", subs.Remove(x, "u", "c-1"), api.OK)
	want(t, "P17.1: Add behind Remove", subs.Add(x, "u", "c-1"), api.OK)
}

func TestAllOfOddRows(t *testing.T) {
	x := begin()
	x.Put("s/u/y", `{"folder":""}`)
	x.Put("s/u/gone", `{"folder":"d"}`)
	x.Put("s/u/bad", `{"folder":"D"}`)
	x.Put("s/u/x/y", `{"folder":""}`)
	x.Put("s/u/X", `{"folder":""}`)
	x.Put("d/u/X", `{}`)
	x.Put("d/u/ok", `{}`)
	s := subs.All(x, "u")
	for range 2 {
		if got := slices.Collect(s); !slices.Equal(got, []subs.Sub{{Feed: "gone", Folder: "d"}, {Feed: "y", Title: "Y"}}) {
			t.Errorf("P17.2: All: %v", got)
		}
	}
	for x := range s {
		if x.Feed != "gone" {
			t.Errorf("P17.2: left early: %v", x)
		}
		break
	}
	if got, ok := subs.Get(x, "u", "bad"); ok || got != "" {
		t.Errorf("P17.2: a row that is none: %q", got)
	}
	if got := folders(x, "u"); got != "ok" {
		t.Errorf("P17.2: Folders: %s", got)
	}
}

// TestFull holds that a transaction without room answers ErrLimit, and has no write more.
func TestFull(t *testing.T) {
	fill := func(x *txn.Txn, room int) {
		for i := len(x.Writes()); i < api.MaxWrites-room; i++ {
			x.Put("k"+strconv.Itoa(i), "")
		}
	}
	x := begin()
	subs.Add(x, "u", "d")
	fill(x, 0)
	kept := x.Writes()
	want(t, "P17.1: Subscribe", subs.Subscribe(x, "u", "x", "d"), api.ErrLimit)
	want(t, "P17.1: Add", subs.Add(x, "u", "e"), api.ErrLimit)
	want(t, "P17.1: Remove", subs.Remove(x, "u", "d"), api.OK)
	want(t, "P17.1: Add", subs.Add(x, "u", "d"), api.OK)
	if !slices.Equal(x.Writes(), kept) {
		t.Error("P0.2: what answers an error changes nothing")
	}
	s := vers.New[string]()
	s.Put(1, "f/x", `{"n":0,"title":"X"}`)
	s.Put(1, "d/u/d", "{}")
	s.Put(1, "s/u/x", `{"folder":""}`)
	s.Put(1, "r/u/x/000001", `{"read":1,"star":0}`)
	for room, calls := range map[int]func(x *txn.Txn) api.Errno{1: func(x *txn.Txn) api.Errno { return subs.Subscribe(x, "u", "x", "d") }, 2: func(x *txn.Txn) api.Errno { return subs.Unsubscribe(x, "u", "x") }} {
		x := txn.Begin(s, 1)
		fill(x, room)
		want(t, "P17.1: room for "+strconv.Itoa(room), calls(x), api.ErrLimit)
		x = txn.Begin(s, 1)
		fill(x, room+1)
		want(t, "P17.1: room for one more", calls(x), api.OK)
	}
}

// TestFoldersStay holds that a folder that has something is there, whatever is done.
func TestFoldersStay(t *testing.T) {
	x := begin()
	for i := range 3000 {
		feed, name := []string{"x", "y", "z"}[i%3], []string{"a", "b"}[i/7%2]
		switch i * i % 11 {
		case 0, 1, 3:
			subs.Subscribe(x, "u", feed, name)
		case 4:
			subs.Unsubscribe(x, "u", feed)
		case 5:
			subs.Add(x, "u", name)
		case 9:
			subs.Remove(x, "u", name)
		}
		for s := range subs.All(x, "u") {
			if s.Folder != "" && !slices.Contains(slices.Collect(subs.Folders(x, "u")), s.Folder) {
				t.Fatalf("P17.4: behind %d: %v", i, s)
			}
		}
	}
}
