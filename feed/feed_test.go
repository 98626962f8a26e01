package feed_test

import (
	"slices"
	"strconv"
	"strings"
	"testing"

	"handbill/api"
	"handbill/feed"
)

func rss(inner string) string  { return "<rss><channel>" + inner + "</channel></rss>" }
func item(inner string) string { return "<item>" + inner + "</item>" }
func atom(inner string) string {
	return `<feed xmlns="http://www.w3.org/2005/Atom">` + inner + "</feed>"
}
func entry(inner string) string { return "<entry>" + inner + "</entry>" }

func entries(l ...api.Entry) []api.Entry {
	for i := range l {
		l[i].Num = i
	}
	return l
}

func hold(t *testing.T, doc string, want feed.Feed) {
	t.Helper()
	f, e := feed.Parse([]byte(doc))
	if e != api.OK || !feed.Same(f, want) {
		t.Errorf("P7.1: %s: %+v, %d; not %+v", doc, f, e, want)
	}
}

func TestRSS(t *testing.T) {
	hold(t, `<rss><channel><title>T</title><item><link>u</link></item></channel></rss>`, feed.Feed{Title: "T", Entries: entries(api.Entry{GUID: "u", Link: "u"})})
	hold(t, rss(""), feed.Feed{})
	hold(t, `<?xml version="1.0"?><rss version="2.0"> <x/> <channel a="b">text</channel><channel><title>second</title></channel></rss>`, feed.Feed{})
	hold(t, rss(`<title> a <b>b</b>&amp;<![CDATA[c]]> </title><title>2</title>`), feed.Feed{Title: "a b&c"})
	hold(t, rss(item(`<guid> g </guid><title>	t
</title><link> l </link><pubDate> Sun, 06 Nov 1994 08:49:37 GMT </pubDate>`)), feed.Feed{Entries: entries(api.Entry{GUID: "g", Title: "t", Link: "l", When: 784111777})})
	hold(t, rss(item(`<pubDate>1994-11-06T08:49:37Z</pubDate><pubDate>1970-01-01T00:00:09Z</pubDate><guid>g</guid><guid>h</guid><title>1</title><title>2</title><link>3</link><link>4</link>`)),
		feed.Feed{Entries: entries(api.Entry{GUID: "g", Title: "1", Link: "3", When: 784111777})})
	hold(t, rss(item(`<guid>g</guid><pubDate>yesterday</pubDate>`)+item(`<guid>h</guid><pubDate/>`)+item(`<guid>i</guid><pubDate>31 Dec 1969 00:00 GMT</pubDate>`)),
		feed.Feed{Entries: entries(api.Entry{GUID: "g"}, api.Entry{GUID: "h"}, api.Entry{GUID: "i"})})
	// What stands deeper, outside of the channel, or in another one, does not count.
	hold(t, `<rss><title>no</title><item><guid>no</guid></item><channel><x><title>no</title><item><guid>no</guid></item></x><image><title>no</title></image><title>T</title>`+
		item(`<x><guid>no</guid></x><guid>g</guid>`)+`</channel><channel><item><guid>no</guid></item></channel></rss>`, feed.Feed{Title: "T", Entries: entries(api.Entry{GUID: "g"})})
}

func TestWhichAreNone(t *testing.T) {
	hold(t, rss(item(`<title>none</title>`)+item(`<guid>a</guid>`)+item(`<link>b</link>`)+item(`<guid>a</guid><title>again</title>`)+item(`<guid> </guid><link>a</link>`)+item(`<guid/><link>c</link>`)+item(`<guid>b</guid>`)+item(``)+item(`<guid>d</guid><link>a</link>`)),
		feed.Feed{Entries: entries(api.Entry{GUID: "a"}, api.Entry{GUID: "b", Link: "b"}, api.Entry{GUID: "c", Link: "c"}, api.Entry{GUID: "d", Link: "a"})})
	hold(t, atom(entry(`<title>none</title>`)+entry(`<id>a</id>`)+entry(`<link href="b"/>`)+entry(`<id>b</id>`)+entry(`<link href=" "/>`)+entry(`<id/><link href="c"/>`)),
		feed.Feed{Entries: entries(api.Entry{GUID: "a"}, api.Entry{GUID: "b", Link: "b"}, api.Entry{GUID: "c", Link: "c"})})
}

func TestAtom(t *testing.T) {
	hold(t, atom(""), feed.Feed{})
	hold(t, `<a:feed xmlns:a="http://www.w3.org/2005/Atom"><a:title>T</a:title><title>no</title><entry><a:id>no</a:id></entry><a:entry><a:id>i</a:id><id>no</id><a:link href="l"/></a:entry></a:feed>`,
		feed.Feed{Title: "T", Entries: entries(api.Entry{GUID: "i", Link: "l"})})
	hold(t, atom(`<title> T <b>U</b></title><title>2</title><x><entry><id>no</id></entry></x>`+entry(`<id> i </id><id>j</id><title> t </title><title>u</title><link href=" l "/><updated> 1994-11-06T08:49:37Z </updated><published>1970-01-01T00:00:09Z</published>`)),
		feed.Feed{Title: "T U", Entries: entries(api.Entry{GUID: "i", Title: "t", Link: "l", When: 784111777})})
	hold(t, atom(entry(`<id>i</id><published>1970-01-01T00:00:09Z</published><published>1970-01-01T00:00:10Z</published>`)+entry(`<id>j</id><published>1 Jan 1970 00:00:08 GMT</published><updated>1 Jan 1970 00:00:07 GMT</updated>`)+entry(`<id>k</id><updated>when</updated>`)),
		feed.Feed{Entries: entries(api.Entry{GUID: "i", When: 9}, api.Entry{GUID: "j", When: 7}, api.Entry{GUID: "k"})})
	for links, want := range map[string]string{
		``: "", `<link/>`: "", `<link rel="self" href="s"/>`: "", `<link rel="self" href="s"/><link href="a"/><link href="b"/>`: "a", `<link rel="alternate"/><link href="b"/>`: "b",
		`<link rel="alternate" href="a"/><link href="b"/>`: "a", `<link rel="Alternate" href="a"/><link href="b"/>`: "b", `<link rel="" href="a"/>`: "", `<link>text</link><link href="b"/>`: "b",
		`<link xmlns:x="u" x:href="a"/><link href="b"/>`: "b", `<link xmlns:x="u" x:href="a" href="c"/>`: "c", `<x><link href="a"/></x>`: "", `<link xmlns="" href="a"/>`: "", `<link href="&#x20;a&amp;b&#9;"/>`: "a&b",
	} {
		hold(t, atom(entry(`<id>i</id>`+links)), feed.Feed{Entries: entries(api.Entry{GUID: "i", Link: want})})
	}
	// Names of another space do not count.
	hold(t, `<rss xmlns:x="u"><x:channel/><channel><x:title>no</x:title><x:item><guid>no</guid></x:item><item><x:guid>no</x:guid><x:link>no</x:link><link>l</link><x:pubDate>1 Jan 1970 00:00:08 GMT</x:pubDate></item></channel></rss>`,
		feed.Feed{Entries: entries(api.Entry{GUID: "l", Link: "l"})})
}

func TestErrors(t *testing.T) {
	for doc, want := range map[string]api.Errno{
		"": api.ErrShort, "<rss>": api.ErrShort, "<rss></a>": api.ErrForm, strings.Repeat(" ", api.MaxDoc+1): api.ErrLong, strings.Repeat("<a>", 65) + strings.Repeat("</a>", 65): api.ErrDepth,
		"<rss/>": api.ErrForm, "<rss><x><channel/></x></rss>": api.ErrForm, "<feed/>": api.ErrForm, "<html/>": api.ErrForm, `<rss xmlns="u"><channel/></rss>`: api.ErrForm, `<rss><channel xmlns="u"/></rss>`: api.ErrForm,
		`<feed xmlns="http://www.w3.org/2005/atom"/>`: api.ErrForm, `<rss xmlns="http://www.w3.org/2005/Atom"><channel xmlns=""/></rss>`: api.ErrForm, `<RSS><channel/></RSS>`: api.ErrForm, `<x><rss><channel/></rss></x>`: api.ErrForm,
		`<entry xmlns="http://www.w3.org/2005/Atom"/>`: api.ErrForm, `<channel/>`: api.ErrForm,
	} {
		if f, e := feed.Parse([]byte(doc)); e != want || !feed.Same(f, feed.Feed{}) {
			t.Errorf("P7.1: %.60q: %+v, %d; not %d", doc, f, e, want)
		}
	}
}

func TestLimits(t *testing.T) {
	x := strings.Repeat("é", 250)
	items := func(n int) string {
		var b strings.Builder
		for i := range n {
			b.WriteString(item("<guid>g" + strconv.Itoa(i) + "</guid>"))
		}
		return b.String()
	}
	for i, c := range []struct {
		doc  string
		want api.Errno
		n    int
	}{
		{rss("<title>" + x + "</title>"), api.OK, 0}, {rss("<title> " + x + " </title>"), api.OK, 0}, {rss("<title>" + x + "y</title>"), api.ErrLong, 0},
		{rss(item("<guid>" + x + "</guid><title>" + x + "</title><link>" + x + "</link>")), api.OK, 1}, {rss(item("<guid>" + x + "y</guid>")), api.ErrLong, 0},
		{rss(item("<guid>g</guid><title>" + x + "y</title>")), api.ErrLong, 0}, {rss(item("<guid>g</guid><link>" + x + "y</link>")), api.ErrLong, 0}, {rss(item("<link>" + x + "y</link>")), api.ErrLong, 0},
		{rss(item("<title>" + x + "y</title>")), api.OK, 0}, {rss(item("<guid>g</guid>") + item("<guid>g</guid><title>"+x+"y</title>")), api.OK, 1},
		{rss(items(200)), api.OK, 200}, {rss(items(201)), api.ErrLimit, 0}, {rss("<title>" + x + "y</title>" + items(201)), api.ErrLimit, 0}, {rss(items(201) + item("<guid>"+x+"y</guid>")), api.ErrLimit, 0},
		{atom("<title>" + x + "</title>" + entry("<id>"+x+"</id>")), api.OK, 1}, {atom("<title>" + x + "z</title>"), api.ErrLong, 0}, {atom(entry("<id>g</id><link href='" + x + "z'/>")), api.ErrLong, 0},
	} {
		f, e := feed.Parse([]byte(c.doc))
		if e != c.want || len(f.Entries) != c.n || e != api.OK && !feed.Same(f, feed.Feed{}) {
			t.Errorf("P7.1: limit %d: %d entries, %d; not %d", i, len(f.Entries), e, c.want)
		}
		for i, x := range f.Entries {
			if x.Num != i || x.GUID == "" {
				t.Errorf("P7.4: entry %d: %+v", i, x)
			}
		}
	}
}

func TestTrim(t *testing.T) {
	for s, want := range map[string]string{"": "", " ": "", " \t\r\na b\n ": "a b", "a": "a", "\u00a0a\u00a0": "\u00a0a\u00a0", "\va\f": "\va\f", "\x00 ": "\x00", " \xff": "\xff", "a\n\nb": "a\n\nb", "\u2003a": "\u2003a"} {
		if got := feed.Trim(s); got != want {
			t.Errorf("P7.2: Trim(%q) = %q", s, got)
		}
	}
}

func TestSame(t *testing.T) {
	x := api.Entry{Num: 1, GUID: "g", Title: "t", Link: "l", When: 2}
	others := []api.Entry{x, {Num: 2, GUID: "g", Title: "t", Link: "l", When: 2}, {Num: 1, GUID: "h", Title: "t", Link: "l", When: 2}, {Num: 1, GUID: "g", Title: "u", Link: "l", When: 2},
		{Num: 1, GUID: "g", Title: "t", Link: "m", When: 2}, {Num: 1, GUID: "g", Title: "t", Link: "l", When: 3}}
	l := []feed.Feed{{}, {Title: "t"}, {Entries: []api.Entry{x, x}}}
	for _, x := range others {
		l = append(l, feed.Feed{Entries: []api.Entry{x}})
	}
	for i, a := range l {
		for j, b := range l {
			if feed.Same(a, feed.Feed{Title: b.Title, Entries: slices.Clone(b.Entries)}) != (i == j) {
				t.Errorf("P7.2: Same of %d and %d", i, j)
			}
		}
	}
	if !feed.Same(feed.Feed{Entries: []api.Entry{}}, feed.Feed{}) {
		t.Error("P0.4: nil and the empty list are the same")
	}
}

func TestEntries(t *testing.T) {
	f := feed.Feed{Entries: []api.Entry{{Num: 5, GUID: "b"}, {Num: 3, GUID: "a"}, {Num: 5, GUID: "b"}}}
	want := slices.Clone(f.Entries)
	s := feed.Entries(f)
	for range 2 {
		if got := slices.Collect(s); !slices.Equal(got, want) {
			t.Errorf("P7.2: Entries: %v", got)
		}
	}
	f.Entries[0].GUID = "spoilt"
	for x := range s {
		if x != want[0] {
			t.Errorf("P7.3: Entries keep what is handed in: %v", x)
		}
		break
	}
	if none := feed.Entries(feed.Feed{}); none == nil || len(slices.Collect(none)) > 0 {
		t.Error("P7.2: Entries of nothing")
	}
}

func TestNewMemory(t *testing.T) {
	doc := []byte(rss("<title>T</title>" + item("<guid>a</guid>") + item("<guid>b</guid>")))
	kept := string(doc)
	a, _ := feed.Parse(doc)
	b, _ := feed.Parse(doc)
	if string(doc) != kept {
		t.Error("P7.3: what is handed in is changed")
	}
	copy(doc, strings.Repeat("?", len(doc)))
	a.Entries[0].GUID = "spoilt"
	_ = append(a.Entries[:1], api.Entry{GUID: "spoilt"})
	if !feed.Same(b, feed.Feed{Title: "T", Entries: entries(api.Entry{GUID: "a"}, api.Entry{GUID: "b"})}) {
		t.Errorf("P7.3: answers share memory: %v", b)
	}
}
