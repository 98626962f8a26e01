package proto

import (
	"handbill/api"
	"handbill/build"
	"handbill/delta"
	"handbill/diff"
	"handbill/json"
	"handbill/list"
	"handbill/subs"
)

// answer tells the text of an object; where there is none, that its form was wrong.
func answer(l ...json.Member) []byte {
	b, e := json.Print(build.Object(l...))
	if e != api.OK {
		return Fail(api.ErrForm)
	}
	return b
}

// Fail tells an error.
func Fail(e api.Errno) []byte {
	return answer(build.Number("error", int(e)), build.Truth("ok", false))
}

// Done tells that it is done.
func Done() []byte { return answer(done()) }

func done() json.Member { return build.Truth("ok", true) }

// Number tells a number by its name.
func Number(name string, n int) []byte {
	switch name {
	case "at":
		return answer(build.Number(name, n), done())
	case "tx", "unread":
		return answer(done(), build.Number(name, n))
	}
	return Fail(api.ErrForm)
}

// Subs tells subscriptions.
func Subs(l []subs.Sub) []byte {
	return answer(done(), build.List("subs", each(l, sub)))
}

func sub(x subs.Sub) json.Value {
	return build.Object(build.Text("feed", x.Feed), build.Text("folder", x.Folder), build.Text("title", x.Title))
}

// Items tells items, and whether there are more.
func Items(l []list.Item, more bool) []byte {
	return answer(build.List("items", each(l, item)), build.Truth("more", more), done())
}

func item(x list.Item) json.Value {
	e := x.Entry
	return build.Object(build.Text("guid", e.GUID), build.Text("link", e.Link), build.Number("num", e.Num),
		build.Truth("read", x.Read), build.Truth("star", x.Star), build.Text("title", e.Title), build.Number("when", e.When))
}

// Page tells changes, and how to ask for those behind.
func Page(p delta.Page) []byte {
	return answer(build.Number("at", p.At), build.List("changes", each(p.Changes, change)),
		build.Truth("more", p.More), build.Text("next", p.Next), done())
}

func change(x diff.Change[string]) json.Value {
	if x.Gone {
		return build.Object(build.Text("key", x.Key), json.Member{Name: "value", V: json.Value{Kind: json.Null}})
	}
	return build.Object(build.Text("key", x.Key), build.Text("value", x.Val))
}

// each tells the value of each part of a list.
func each[T any](l []T, value func(T) json.Value) []json.Value {
	var all []json.Value
	for _, x := range l {
		all = append(all, value(x))
	}
	return all
}
