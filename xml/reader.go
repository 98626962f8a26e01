package xml

import (
	"strings"

	"handbill/api"
	"handbill/text"
)

const (
	mark   = "\xEF\xBB\xBF"
	blanks = " \t\n\r"
)

// name is a full name: prefix is empty, if there is none.
type name struct {
	prefix, local string
}

// element is one that is open: its name as it stands there, as it is told, and what its attributes say of spaces.
type element struct {
	full   name
	token  Token
	spaces []attribute
}

// attribute is one as it stands there.
type attribute struct {
	full  name
	value string
}

// reader reads a document from the front; run is the text that no tag has ended yet.
type reader struct {
	s      string
	at     int
	run    []byte
	open   []element
	tokens []Token
}

// signsMay tells whether a document has only signs that one may have.
func signsMay(s string) bool {
	for i := range len(s) {
		if s[i] < 0x20 && !isBlank(s[i]) {
			return false
		}
	}
	return text.Valid(s)
}

func isBlank(c byte) bool { return strings.IndexByte(blanks, c) >= 0 }

func (r *reader) document() api.Errno {
	if strings.HasPrefix(r.s, mark) {
		r.at = len(mark)
	}
	if e := r.declaration(); e != api.OK {
		return e
	}
	if e := r.misc(); e != api.OK {
		return e
	}
	if e := r.element(); e != api.OK {
		return e
	}
	for len(r.open) > 0 {
		if e := r.content(); e != api.OK {
			return e
		}
	}
	if e := r.misc(); e != api.OK {
		return e
	}
	if r.at < len(r.s) {
		// Only a comment could stand there, and misc found that this is none.
		return r.expect("<!--")
	}
	return api.OK
}

// expect reads a word that has to stand there.
func (r *reader) expect(word string) api.Errno {
	rest := r.s[r.at:]
	if strings.HasPrefix(rest, word) {
		r.at += len(word)
		return api.OK
	}
	if strings.HasPrefix(word, rest) {
		return api.ErrShort
	}
	return api.ErrForm
}

// starts tells whether a word stands there.
func (r *reader) starts(word string) bool { return strings.HasPrefix(r.s[r.at:], word) }

// skip passes over blanks, and tells whether there were some.
func (r *reader) skip() bool {
	from := r.at
	for r.at < len(r.s) && isBlank(r.s[r.at]) {
		r.at++
	}
	return r.at > from
}

// until tells what stands ahead of a word, and passes over both.
func (r *reader) until(word string) (string, api.Errno) {
	n := strings.Index(r.s[r.at:], word)
	if n < 0 {
		return "", api.ErrShort
	}
	s := r.s[r.at : r.at+n]
	r.at += n + len(word)
	return s, api.OK
}

func (r *reader) declaration() api.Errno {
	if !r.starts("<?") {
		return api.OK
	}
	if e := r.expect("<?xml"); e != api.OK {
		return e
	}
	if r.at < len(r.s) && !isBlank(r.s[r.at]) {
		return api.ErrForm
	}
	r.skip()
	_, e := r.until("?>")
	return e
}

// misc passes over blanks and comments.
func (r *reader) misc() api.Errno {
	for {
		r.skip()
		if !r.starts("<!") {
			return api.OK
		}
		if e := r.comment(); e != api.OK {
			return e
		}
	}
}

// comment passes over a comment: what stands in it may end with one `-`, but has no two of them.
func (r *reader) comment() api.Errno {
	if e := r.expect("<!--"); e != api.OK {
		return e
	}
	if _, e := r.until("--"); e != api.OK {
		return e
	}
	if r.starts("->") {
		r.at++
	}
	if r.s[r.at:] == "-" {
		return api.ErrShort
	}
	return r.expect(">")
}

// content reads one part of what stands in an element.
func (r *reader) content() api.Errno {
	rest := r.s[r.at:]
	switch {
	case rest == "" || rest == "<" || rest == "<!":
		return api.ErrShort
	case rest[0] == '&':
		return r.referenceInRun()
	case strings.HasPrefix(rest, "<!["):
		return r.data()
	case strings.HasPrefix(rest, "<!"):
		return r.comment()
	case strings.HasPrefix(rest, "</"):
		return r.end()
	case rest[0] == '<':
		return r.element()
	}
	n := strings.IndexAny(rest, "<&")
	if n < 0 {
		return api.ErrShort
	}
	r.run = append(r.run, rest[:n]...)
	r.at += n
	return api.OK
}

func (r *reader) referenceInRun() api.Errno {
	s, e := r.reference()
	r.run = append(r.run, s...)
	return e
}

func (r *reader) data() api.Errno {
	if e := r.expect("<![CDATA["); e != api.OK {
		return e
	}
	s, e := r.until("]]>")
	r.run = append(r.run, s...)
	return e
}

// flush tells the run of text that a tag ends.
func (r *reader) flush() api.Errno {
	if len(r.run) > api.MaxText {
		return api.ErrLong
	}
	if len(r.run) > 0 {
		r.tokens = append(r.tokens, Token{Kind: Text, Text: string(r.run)})
	}
	r.run = nil
	return api.OK
}

// end reads what ends an element.
func (r *reader) end() api.Errno {
	if e := r.flush(); e != api.OK {
		return e
	}
	r.at += len("</")
	full, e := r.fullName()
	if e != api.OK {
		return e
	}
	last := len(r.open) - 1
	if r.at < len(r.s) && full != r.open[last].full {
		return api.ErrForm
	}
	r.skip()
	r.tokens = append(r.tokens, closeOf(r.open[last]))
	r.open = r.open[:last]
	return r.expect(">")
}

func closeOf(x element) Token {
	return Token{Kind: Close, Space: x.token.Space, Name: x.token.Name}
}

// element reads what begins an element, or is a whole one.
func (r *reader) element() api.Errno {
	if e := r.flush(); e != api.OK {
		return e
	}
	if e := r.expect("<"); e != api.OK {
		return e
	}
	full, e := r.fullName()
	if e != api.OK {
		return e
	}
	l, e := r.attributes()
	if e != api.OK {
		return e
	}
	whole := r.starts("/")
	if whole {
		r.at++
	}
	if e := r.expect(">"); e != api.OK {
		return e
	}
	return r.begin(full, l, whole)
}

// begin tells an element's beginning, and its end if it is a whole one.
func (r *reader) begin(full name, l []attribute, whole bool) api.Errno {
	if len(r.open) == api.MaxNest {
		return api.ErrDepth
	}
	x := element{full: full}
	for _, a := range l {
		if isSpace(a) {
			x.spaces = append(x.spaces, a)
		}
	}
	r.open = append(r.open, x)
	token, ok := r.resolve(full, l)
	if !ok {
		return api.ErrForm
	}
	last := len(r.open) - 1
	r.open[last].token = token
	r.tokens = append(r.tokens, token)
	if whole {
		r.tokens = append(r.tokens, closeOf(r.open[last]))
		r.open = r.open[:last]
	}
	return api.OK
}

// isSpace tells whether an attribute says what a prefix, or none, stands for.
func isSpace(a attribute) bool {
	return a.full.prefix == "xmlns" || a.full == name{local: "xmlns"}
}

// resolve tells an element's beginning with the spaces of its names.
func (r *reader) resolve(full name, l []attribute) (Token, bool) {
	space, ok := r.space(full.prefix)
	if !ok {
		return Token{}, false
	}
	t := Token{Kind: Open, Space: space, Name: full.local}
	for _, a := range l {
		if isSpace(a) {
			continue
		}
		space := ""
		if a.full.prefix != "" {
			if space, ok = r.space(a.full.prefix); !ok {
				return Token{}, false
			}
		}
		t.Attrs = append(t.Attrs, Attr{space, a.full.local, a.value})
	}
	return t, true
}

// space tells what a prefix, or none, stands for in the innermost element.
func (r *reader) space(prefix string) (string, bool) {
	if prefix == "xml" {
		return "xml", true
	}
	full := name{"xmlns", prefix}
	if prefix == "" {
		full = name{local: "xmlns"}
	}
	for i := len(r.open) - 1; i >= 0; i-- {
		for _, a := range r.open[i].spaces {
			if a.full == full {
				return a.value, true
			}
		}
	}
	return "", prefix == ""
}

// attributes reads those of an element, and the blanks behind them.
func (r *reader) attributes() ([]attribute, api.Errno) {
	var l []attribute
	had := map[name]int{}
	for {
		apart := r.skip()
		if r.at == len(r.s) {
			return nil, api.ErrShort
		}
		if r.starts(">") || r.starts("/") {
			return l, api.OK
		}
		if !apart {
			return nil, api.ErrForm
		}
		a, e := r.attribute()
		if e != api.OK {
			return nil, e
		}
		if had[a.full]++; had[a.full] > 1 {
			return nil, api.ErrForm
		}
		l = append(l, a)
	}
}

func (r *reader) attribute() (attribute, api.Errno) {
	full, e := r.fullName()
	if e != api.OK {
		return attribute{}, e
	}
	r.skip()
	if e := r.expect("="); e != api.OK {
		return attribute{}, e
	}
	r.skip()
	value, e := r.value()
	return attribute{full, value}, e
}

// value reads an attribute's value, with what its references stand for.
func (r *reader) value() (string, api.Errno) {
	if r.at == len(r.s) {
		return "", api.ErrShort
	}
	quote := r.s[r.at]
	if quote != '"' && quote != '\'' {
		return "", api.ErrForm
	}
	r.at++
	var b []byte
	for r.at < len(r.s) {
		switch c := r.s[r.at]; c {
		case '<':
			return "", api.ErrForm
		case '&':
			s, e := r.reference()
			if e != api.OK {
				return "", e
			}
			b = append(b, s...)
		case quote:
			r.at++
			if len(b) > api.MaxText {
				return "", api.ErrLong
			}
			return string(b), api.OK
		default:
			b = append(b, c)
			r.at++
		}
	}
	return "", api.ErrShort
}

// fullName reads a name, or two with `:` between.
func (r *reader) fullName() (name, api.Errno) {
	first, e := r.name()
	if e != api.OK || !r.starts(":") {
		return name{local: first}, e
	}
	r.at++
	second, e := r.name()
	return name{first, second}, e
}

func (r *reader) name() (string, api.Errno) {
	if r.at == len(r.s) {
		return "", api.ErrShort
	}
	from := r.at
	for r.at < len(r.s) && isNameByte(r.s[r.at], r.at > from) {
		r.at++
	}
	if r.at == from {
		return "", api.ErrForm
	}
	return r.s[from:r.at], api.OK
}

// isNameByte tells whether a byte may stand in a name, at its beginning or behind it.
func isNameByte(c byte, behind bool) bool {
	if c >= 'a' && c <= 'z' || c >= 'A' && c <= 'Z' || c == '_' {
		return true
	}
	return behind && (c >= '0' && c <= '9' || c == '-' || c == '.')
}
