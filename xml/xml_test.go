package xml_test

import (
	"math"
	"math/rand"
	"slices"
	"strconv"
	"strings"
	"testing"

	"handbill/api"
	"handbill/xml"
)

func open(space, name string, attrs ...xml.Attr) xml.Token {
	return xml.Token{Kind: xml.Open, Space: space, Name: name, Attrs: attrs}
}
func closed(space, name string) xml.Token {
	return xml.Token{Kind: xml.Close, Space: space, Name: name}
}
func words(s string) xml.Token { return xml.Token{Kind: xml.Text, Text: s} }

func same(a, b []xml.Token) bool { return slices.EqualFunc(a, b, xml.Same) }

func TestKinds(t *testing.T) {
	if xml.Open != 1 || xml.Close != 2 || xml.Text != 3 {
		t.Error("P6.1: the kinds")
	}
}

func TestTokens(t *testing.T) {
	a, z := open("", "a"), closed("", "a")
	for doc, want := range map[string][]xml.Token{
		`<a x="1">b&amp;<![CDATA[<]]></a>`: {open("", "a", xml.Attr{Name: "x", Value: "1"}), words("b&<"), z},
		`<a/>`:                             {a, z}, `<a />`: {a, z}, "<a\t\r\n></a\n >": {a, z}, "\xEF\xBB\xBF<a/>": {a, z}, " \r\n\t<a/>\n ": {a, z},
		`<?xml version="1.0"?><a/>`: {a, z}, "\xEF\xBB\xBF<?xml ?>\n<!-- x --><a/><!----><!-- <b> & - -> -->": {a, z}, "<?xml\n<&>??><a/>": {a, z}, `<?xml ? >?><a/>`: {a, z},
		`<a></a>`: {a, z}, `<a> </a>`: {a, words(" "), z}, `<a>x<!-- c -->y</a>`: {a, words("xy"), z}, `<a><!-- c --></a>`: {a, z}, `<a><![CDATA[]]></a>`: {a, z},
		`<a><![CDATA[x]]]]><![CDATA[>]]></a>`: {a, words("x]]>"), z}, `<a>]]></a>`: {a, words("]]>"), z}, `<a>></a>`: {a, words(">"), z},
		`<a>x<b/>y<b>z</b></a>`:            {a, words("x"), open("", "b"), closed("", "b"), words("y"), open("", "b"), words("z"), closed("", "b"), z},
		`<a>&lt;&gt;&amp;&quot;&apos;</a>`: {a, words(`<>&"'`), z}, `<a>&#65;&#x41;&#x0000e9;&#0000233;&#x10FFFF;&#9;&#xA;&#13;&#32;</a>`: {a, words("AAéé\U0010ffff\t\n\r "), z},
		`<a>&#xa;&#xd;&#xEf;&#xFa;&#xaF;</a>`: {a, words("\n\r\u00ef\u00fa\u00af"), z}, `<AZaz A="" Z="" a="" z=""/>`: {open("", "AZaz", xml.Attr{Name: "A"}, xml.Attr{Name: "Z"}, xml.Attr{Name: "a"}, xml.Attr{Name: "z"}), closed("", "AZaz")}, `<a>&amp;amp;</a>`: {a, words("&amp;"), z}, "<a>é€😀\x7f</a>": {a, words("é€😀\x7f"), z}, `<a x='"' y="'" z = "&lt;&#60;>"/>`: {open("", "a", xml.Attr{Name: "x", Value: `"`}, xml.Attr{Name: "y", Value: "'"}, xml.Attr{Name: "z", Value: "<<>"}), z},
		"<a b=''\n c\t=\r'\n'></a>": {open("", "a", xml.Attr{Name: "b"}, xml.Attr{Name: "c", Value: "\n"}), z},
		`<_a-.9Z b.c_-1="2"/>`:      {open("", "_a-.9Z", xml.Attr{Name: "b.c_-1", Value: "2"}), closed("", "_a-.9Z")},
	} {
		l, e := xml.Tokens([]byte(doc))
		if e != api.OK || !same(l, want) {
			t.Errorf("P6.1: %s: %v, %d", doc, l, e)
		}
	}
}

func TestSpaces(t *testing.T) {
	for doc, want := range map[string][]xml.Token{
		`<a xmlns="u"><b/></a>`:                  {open("u", "a"), open("u", "b"), closed("u", "b"), closed("u", "a")},
		`<a xmlns="u"><b xmlns=""/><c/></a>`:     {open("u", "a"), open("", "b"), closed("", "b"), open("u", "c"), closed("u", "c"), closed("u", "a")},
		`<p:a p:x="1" x="2" xmlns:p="u&amp;v"/>`: {open("u&v", "a", xml.Attr{Space: "u&v", Name: "x", Value: "1"}, xml.Attr{Name: "x", Value: "2"}), closed("u&v", "a")},
		`<a xmlns="d" xmlns:p="u" y="0" p:y="1"><p:b xmlns:p="v" p:z="2"/><p:c/></a>`: {open("d", "a", xml.Attr{Name: "y", Value: "0"}, xml.Attr{Space: "u", Name: "y", Value: "1"}),
			open("v", "b", xml.Attr{Space: "v", Name: "z", Value: "2"}), closed("v", "b"), open("u", "c"), closed("u", "c"), closed("d", "a")},
		`<xml:a xml:lang="en" xmlns:xml="other"/>`:     {open("xml", "a", xml.Attr{Space: "xml", Name: "lang", Value: "en"}), closed("xml", "a")},
		`<p:a xmlns:p=""/>`:                            {open("", "a"), closed("", "a")},
		`<a xmlns:p="u" xmlns:q="u" p:x="1" q:x="2"/>`: {open("", "a", xml.Attr{Space: "u", Name: "x", Value: "1"}, xml.Attr{Space: "u", Name: "x", Value: "2"}), closed("", "a")},
		`<a xmlns:p="u" p:xmlns="1" XMLNS="2"/>`:       {open("", "a", xml.Attr{Space: "u", Name: "xmlns", Value: "1"}, xml.Attr{Name: "XMLNS", Value: "2"}), closed("", "a")},
		`<a><b xmlns="u"/><c/></a>`:                    {open("", "a"), open("u", "b"), closed("u", "b"), open("", "c"), closed("", "c"), closed("", "a")},
	} {
		l, e := xml.Tokens([]byte(doc))
		if e != api.OK || !same(l, want) {
			t.Errorf("P6.1: %s: %v, %d", doc, l, e)
		}
	}
}

func TestTokensForm(t *testing.T) {
	for _, doc := range []string{
		"x<a/>", "<a/>x", "<a/><b/>", "<a></a></a>", "<a></b>", "<a></ab>", "<ab></a>", "<a:b xmlns:a='u'></b>", "<a></a:a>", "<a><b></a></b>", "</a><a/>", "<1a/>", "<-a/>", "<.a/>", "< a/>", "<@/>", "<[/>", "<`/>", "<{/>", "<a@/>", "<a[/>", "<a`/>", "<a{/>", "<a,/>", "<a+/>", "<é/>", "<aé/>", "<a:/>", "<:a/>",
		"<a:1b xmlns:a='u'/>", "<a:b:c xmlns:a='u'/>", "<a/ >", "<a / >", "<a//>", "<a x/>", "<a x=1/>", "<a x=/>", "<a x='1'y='2'/>", "<a x='1' x='2'/>", "<a x='1' y='1' x='1'/>", "<a xmlns='u' xmlns='u'/>",
		"<a xmlns:p='u' xmlns:p='v'/>", "<a xmlns:p='u' p:x='1' p:x='2'/>", "<a x='<'/>", "<a x='&'/>", "<a x='&b;'/>", "<a x='&lt'/>", "<a 1x='1'/>", "<a =''/>", "<a x:='1'/>", "<a x=`1`/>",
		"<p:a/>", "<a p:x='1'/>", "<a><b xmlns:p='u'/><p:c/></a>", "<xmlns:a/>", "<a xmlns:p='u'><q:b/></a>", "<P:a xmlns:p='u'/>",
		"<a>&</a>", "<a>&;</a>", "<a>& lt;</a>", "<a>&LT;</a>", "<a>&nbsp;</a>", "<a>&lt </a>", "<a>&#;</a>", "<a>&#x;</a>", "<a>&#X41;</a>", "<a>&#12345678;</a>", "<a>&#x1234567;</a>", "<a>&#00000065;</a>", "<a>&#x0000041;</a>",
		"<a>&#4:;</a>", "<a>&#x4:;</a>", "<a>&#x4G;</a>", "<a>&#x4@;</a>", "<a>&#x4`;</a>", "<a>&#x4/;</a>", "<a>&#a;</a>", "<a>&#xg;</a>", "<a>&#-5;</a>", "<a>&#0;</a>", "<a>&#8;</a>", "<a>&#11;</a>", "<a>&#31;</a>", "<a>&#x1F;</a>", "<a>&#xD800;</a>", "<a>&#xDFFF;</a>", "<a>&#x110000;</a>", "<a>&#1114112;</a>", "<a>&#9999999;</a>", "<a>&ltx;</a>",
		"<a><!-- -- --></a>", "<a><!-- x-- --></a>", "<a><!-- ---- --></a>", "<!-- -- --><a/>", "<a/><!-- -- -->", "<a><!- x --></a>", "<a><!x></a>", "<a><!></a>", "<a><![cdata[x]]></a>", "<a><![CDATAx]]></a>", "<![CDATA[x]]><a/>", "<a/><![CDATA[x]]>",
		"<!DOCTYPE a><a/>", "<a><?x ?></a>", "<?x ?><a/>", " <?xml ?><a/>", "<?xml?><a/>", "<?xmlx ?><a/>", "<?XML ?><a/>", "<?xml ?><?xml ?><a/>", "<!-- --><?xml ?><a/>", "<a/><?xml ?>", "<a/>\x00", "<a>\x01</a>", "<a>\x0b</a>", "<a>\x1f</a>",
		"<!-- \x02 --><a/>", "<?xml \x03?><a/>", "<a x='\x04'/>", "<a><![CDATA[\x05]]></a>", "<a>\xff</a>", "<a>\xc3</a>", "<a>\xed\xa0\x80</a>", "<!-- \xff --><a/>", "<a x='\xc0\x80'/>", "<a/><!-- \xfe -->", "\xEF\xBB\xBF\xEF\xBB\xBF<a/>", "<a/>\xEF\xBB\xBF",
		"<a></ a>", "<a></a x='1'>", "<a></>", "<>", "<a>< b/></a>", "<a<b/></a>", "&amp;<a/>", "<a/>&amp;", "<a></a/>", "<a \x0c x='1'/>", "<a\u00a0/>",
	} {
		if l, e := xml.Tokens([]byte(doc)); e != api.ErrForm || len(l) > 0 {
			t.Errorf("P6.1: %q: %v, %d", doc, l, e)
		}
	}
}

// TestCut cuts documents at each place: they end too early.
func TestCut(t *testing.T) {
	for _, doc := range []string{
		`<?xml version="1.0"?> <!-- a - b --><p:a xmlns:p="u" p:x = '&lt;&#x41;&#233;' /`, `<a><b c="1">x&amp;y&apos;<![CDATA[<]]]>]]><!-- - --></b ><c/></a`, `<a/><!-- b --`, `<a:b xmlns:a="u">&quot;&gt;</a:b`,
	} {
		for n := range len(doc) + 1 {
			cut := doc[:n]
			if cut == "<a/>" {
				continue
			}
			if l, e := xml.Tokens([]byte(cut)); e != api.ErrShort || len(l) > 0 {
				t.Errorf("P6.1: %q: %v, %d", cut, l, e)
			}
		}
	}
	for _, doc := range []string{"", " \n", "\xEF\xBB\xBF", "<?xml ?>", "<!-- -->", "<a/><", "<a/><!", "<a/> <!-", "<a>", "<a>x", "<a></a", "<a><!--->x</a>", "<a><![CDATA[x]]</a>"} {
		if l, e := xml.Tokens([]byte(doc)); e != api.ErrShort || len(l) > 0 {
			t.Errorf("P6.1: %q: %v, %d", doc, l, e)
		}
	}
}

func TestLimits(t *testing.T) {
	x := strings.Repeat("x", api.MaxText)
	nest := func(n int) string { return strings.Repeat("<a>", n) + strings.Repeat("</a>", n) }
	for doc, want := range map[string]api.Errno{
		"<a>" + x + "</a>": api.OK, "<a>" + x + "y</a>": api.ErrLong, "<a>" + x + "<![CDATA[y]]></a>": api.ErrLong, "<a>" + x + "<!-- -->&lt;</a>": api.ErrLong, "<a>" + x + "<b/>" + x + "</a>": api.OK, "<a>" + x + "y<b/></a>": api.ErrLong,
		"<a x='" + x + "'/>": api.OK, "<a x='" + x + "y'/>": api.ErrLong, "<a x='" + x + "&lt;'/>": api.ErrLong, "<a><!--" + x + x + "--></a>": api.OK, "<a xmlns='" + x + "y'/>": api.ErrLong,
		nest(64): api.OK, nest(65): api.ErrDepth, strings.Repeat("<a>", 63) + "<b/><b/>" + strings.Repeat("</a>", 63): api.OK, strings.Repeat("<a>", 64) + "<b/>" + strings.Repeat("</a>", 64): api.ErrDepth,
		"<a>" + strings.Repeat("<b/>", 300) + "</a>": api.OK, "<a/>" + strings.Repeat(" ", api.MaxDoc-4): api.OK, "<a/>" + strings.Repeat(" ", api.MaxDoc-3): api.ErrLong, strings.Repeat("x", api.MaxDoc+1): api.ErrLong,
		"<a>" + strings.Repeat("&#x10ffff;", 1800) + "</a>": api.OK,
	} {
		l, e := xml.Tokens([]byte(doc))
		if e != want || e != api.OK && len(l) > 0 {
			t.Errorf("P6.1: %.30q of %d bytes: %d, not %d", doc, len(doc), e, want)
		}
	}
}

func TestInner(t *testing.T) {
	l, _ := xml.Tokens([]byte(`<a>1<b>2<c>3</c></b>4<d/></a>`))
	// 0 a, 1 "1", 2 b, 3 "2", 4 c, 5 "3", 6 /c, 7 /b, 8 "4", 9 d, 10 /d, 11 /a
	for at, want := range map[int]struct {
		s   string
		end int
	}{
		0: {"1234", 12}, 1: {"", 1}, 2: {"23", 8}, 4: {"3", 7}, 6: {"", 6}, 7: {"", 7}, 9: {"", 11}, 11: {"", 11}, 12: {"", 12}, 13: {"", 13}, -1: {"", -1}, math.MaxInt: {"", math.MaxInt}, math.MinInt: {"", math.MinInt},
	} {
		if s, end := xml.Inner(l, at); s != want.s || end != want.end {
			t.Errorf("P6.2: Inner at %d: %q, %d", at, s, end)
		}
	}
	if s, end := xml.Inner(l[:6], 0); s != "123" || end != 6 {
		t.Errorf("P6.2: Inner of a list that ends before: %q, %d", s, end)
	}
	if s, end := xml.Inner(nil, 0); s != "" || end != 0 {
		t.Errorf("P6.2: Inner of nothing: %q, %d", s, end)
	}
	odd := []xml.Token{{Kind: 9}, open("", "a"), {Kind: 7, Text: "x"}, words("y"), {Kind: -1}, closed("", "b"), closed("", "a")}
	if s, end := xml.Inner(odd, 1); s != "y" || end != 6 {
		t.Errorf("P6.2: Inner of a list by hand: %q, %d", s, end)
	}
}

func TestSame(t *testing.T) {
	l := []xml.Token{{}, {Kind: 1}, {Kind: 2}, {Space: "a"}, {Name: "a"}, {Text: "a"}, {Attrs: []xml.Attr{{}}}, {Attrs: []xml.Attr{{}, {}}}, {Attrs: []xml.Attr{{Space: "a"}}}, {Attrs: []xml.Attr{{Name: "a"}}}, {Attrs: []xml.Attr{{Value: "a"}}},
		{Attrs: []xml.Attr{{Name: "a"}, {Name: "b"}}}, {Attrs: []xml.Attr{{Name: "b"}, {Name: "a"}}}}
	for i, a := range l {
		for j, b := range l {
			if xml.Same(a, b) != (i == j) {
				t.Errorf("P6.2: Same of %d and %d", i, j)
			}
		}
	}
	if !xml.Same(xml.Token{Attrs: []xml.Attr{}}, xml.Token{}) {
		t.Error("P0.4: nil and the empty list are the same")
	}
}

func TestEach(t *testing.T) {
	doc := []byte(`<a x="1"><b y="2" z="3"/>t</a>`)
	l, _ := xml.Tokens(doc)
	want, _ := xml.Tokens(doc)
	s := xml.Each(l)
	for range 2 {
		var got []xml.Token
		for i, x := range s {
			if i != len(got) {
				t.Errorf("P6.2: place %d", i)
			}
			got = append(got, x)
		}
		if !same(got, want) {
			t.Errorf("P6.2: Each: %v", got)
		}
		got[0].Attrs[0].Value = "spoilt"
	}
	if !same(l, want) {
		t.Error("P6.3: what Each tells shares memory")
	}
	l[0].Attrs[0].Value = "spoilt"
	l[1].Name = "spoilt"
	for i, x := range s {
		if !xml.Same(x, want[i]) {
			t.Errorf("P6.3: Each keeps what is handed in: %v", x)
		}
		if i == 1 {
			break
		}
	}
	none := xml.Each(nil)
	if none == nil {
		t.Fatal("P6.2: Each of nothing is nil")
	}
	for range none {
		t.Error("P6.2: Each of nothing")
	}
}

func TestNewMemory(t *testing.T) {
	doc := []byte(`<a x="1" y="2"><b z="3"/>t</a>`)
	kept := string(doc)
	want, _ := xml.Tokens(doc)
	l, _ := xml.Tokens(doc)
	if string(doc) != kept {
		t.Error("P6.3: what is handed in is changed")
	}
	copy(doc, strings.Repeat("?", len(doc)))
	_ = append(l[0].Attrs, xml.Attr{Name: "spoilt"})
	l[0].Attrs[1].Value = "spoilt"
	if got, _ := xml.Tokens([]byte(kept)); !same(got, want) || l[1].Attrs[0] != (xml.Attr{Name: "z", Value: "3"}) || want[3].Text != "t" {
		t.Errorf("P6.3: answers share memory: %v", want)
	}
	if l, e := xml.Tokens([]byte("<a/>xx")[:4]); e != api.OK || len(l) != 2 {
		t.Errorf("P0.4: behind the length: %d", e)
	}
}

// TestRandom writes elements at random, and reads them.
func TestRandom(t *testing.T) {
	r := rand.New(rand.NewSource(9))
	for range 3000 {
		var b strings.Builder
		var want []xml.Token
		element(r, &b, &want, "", 4)
		l, e := xml.Tokens([]byte(b.String()))
		if e != api.OK || !same(l, want) {
			t.Fatalf("P6.1: %s: %v, %d", b.String(), l, e)
		}
		depth := 0
		for i, x := range l {
			switch x.Kind {
			case xml.Open:
				depth++
			case xml.Close:
				depth--
			case xml.Text:
				if i > 0 && l[i-1].Kind == xml.Text || x.Text == "" {
					t.Fatalf("P6.4: %s: %v", b.String(), l)
				}
			}
			if depth < 1 && i < len(l)-1 || depth < 0 {
				t.Fatalf("P6.4: %s: %v", b.String(), l)
			}
		}
	}
}

func element(r *rand.Rand, b *strings.Builder, want *[]xml.Token, space string, depth int) {
	name := string(rune('a' + r.Intn(4)))
	full := name
	x := open(space, name)
	b.WriteString("<")
	attrs := ""
	if r.Intn(3) == 0 {
		space = "u" + strconv.Itoa(r.Intn(9))
		x.Space = space
		attrs += ` xmlns="` + space + `"`
	}
	if r.Intn(4) == 0 {
		x.Space = "q"
		full = "p:" + name
		attrs += "\nxmlns:p='q'"
	}
	for i := range r.Intn(3) {
		x.Attrs = append(x.Attrs, xml.Attr{Name: "n" + strconv.Itoa(i), Value: "v&"})
		attrs += " n" + strconv.Itoa(i) + " = \"v&#38;\""
	}
	b.WriteString(full + attrs)
	*want = append(*want, x)
	if r.Intn(4) == 0 || depth == 0 {
		b.WriteString("/>")
	} else {
		b.WriteString(">")
		inside(r, b, want, space, depth)
		b.WriteString("</" + full + " >")
	}
	*want = append(*want, closed(x.Space, name))
}

func inside(r *rand.Rand, b *strings.Builder, want *[]xml.Token, space string, depth int) {
	text := ""
	flush := func() {
		if text != "" {
			*want = append(*want, words(text))
		}
		text = ""
	}
	for range r.Intn(6) {
		switch r.Intn(5) {
		case 0:
			b.WriteString("é ")
			text += "é "
		case 1:
			b.WriteString("&lt;&#x20AC;")
			text += "<€"
		case 2:
			b.WriteString("<![CDATA[&lt;]]]>")
			text += "&lt;]"
		case 3:
			b.WriteString("<!-- <x> - -->")
		case 4:
			flush()
			element(r, b, want, space, depth-1)
		}
	}
	flush()
}

// TestTurned turns bytes of a document: whatever it is then, the call ends, and tells nothing beside an error.
func TestTurned(t *testing.T) {
	r := rand.New(rand.NewSource(10))
	const signs = "<>/&;:=\"' a-!?[]\x00\xff"
	doc := `<?xml version="1.0"?><!-- c --><p:a xmlns:p="u" x='1'>t&amp;&#x41;<![CDATA[d]]><b/></p:a>`
	for range 30000 {
		b := []byte(doc)
		for range 1 + r.Intn(3) {
			b[r.Intn(len(b))] = signs[r.Intn(len(signs))]
		}
		l, e := xml.Tokens(b)
		if e != api.OK && (len(l) > 0 || e != api.ErrForm && e != api.ErrShort) || e == api.OK && len(l) < 2 {
			t.Fatalf("P6.1: %q: %v, %d", b, l, e)
		}
	}
}
