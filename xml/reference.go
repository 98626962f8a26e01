package xml

import (
	"strings"

	"handbill/api"
	"handbill/text"
)

// reference reads a reference, and tells the sign that it stands for.
func (r *reader) reference() (string, api.Errno) {
	if r.starts("&#x") {
		r.at += len("&#x")
		return r.numbered(16, 6)
	}
	if r.starts("&#") {
		r.at += len("&#")
		return r.numbered(10, 7)
	}
	return r.named()
}

// named reads a reference by a name.
func (r *reader) named() (string, api.Errno) {
	e := api.ErrForm
	for _, x := range [5][2]string{{"&lt;", "<"}, {"&gt;", ">"}, {"&amp;", "&"}, {"&quot;", "\""}, {"&apos;", "'"}} {
		switch r.expect(x[0]) {
		case api.OK:
			return x[1], api.OK
		case api.ErrShort:
			e = api.ErrShort
		}
	}
	return "", e
}

// numbered reads the digits of a reference, and what ends it.
func (r *reader) numbered(of, most int) (string, api.Errno) {
	n, digits := 0, 0
	for r.at < len(r.s) && r.s[r.at] != ';' {
		d := digit(r.s[r.at])
		if d < 0 || d >= of || digits == most {
			return "", api.ErrForm
		}
		n = n*of + d
		digits++
		r.at++
	}
	if r.at == len(r.s) {
		return "", api.ErrShort
	}
	r.at++
	s, ok := text.Sign(n)
	if digits == 0 || !ok || n < 0x20 && strings.IndexByte(blanks, byte(n)) < 0 {
		return "", api.ErrForm
	}
	return s, api.OK
}

// digit tells what a digit of 16 says, -1 if it is none.
func digit(c byte) int {
	switch {
	case c >= '0' && c <= '9':
		return int(c - '0')
	case c >= 'a' && c <= 'f':
		return int(c-'a') + 10
	case c >= 'A' && c <= 'F':
		return int(c-'A') + 10
	}
	return -1
}
