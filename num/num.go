// Package num: numbers and bytes (chapter 1).
package num

import "handbill/api"

const (
	maxWidth  = 6
	maxVar    = 1<<56 - 1
	varBytes  = 8
	maxDigits = 18
	hexSigns  = "0123456789abcdef"
)

// nibbles has what four bits do to a check sum; one for eight bits would be too long a table.
var nibbles = [16]uint32{
	0x00000000, 0x1DB71064, 0x3B6E20C8, 0x26D930AC,
	0x76DC4190, 0x6B6B51F4, 0x4DB26158, 0x5005713C,
	0xEDB88320, 0xF00F9344, 0xD6D6A3E8, 0xCB61B38C,
	0x9B64C2B0, 0x86D3D2D4, 0xA00AE278, 0xBDBDF21C,
}

// Put tells n in width bytes, the greatest first.
func Put(n, width int) ([]byte, api.Errno) {
	if width < 1 || width > maxWidth || n < 0 || n >= 1<<(8*width) {
		return nil, api.ErrRange
	}
	b := make([]byte, width)
	for i := range b {
		b[i] = byte(n >> (8 * (width - 1 - i)))
	}
	return b, api.OK
}

// Get tells the number of width bytes that stands at a place.
func Get(b []byte, at, width int) (int, api.Errno) {
	if width < 1 || width > maxWidth || at < 0 || at > len(b) {
		return 0, api.ErrRange
	}
	if len(b)-at < width {
		return 0, api.ErrShort
	}
	n := 0
	for _, c := range b[at : at+width] {
		n = n<<8 | int(c)
	}
	return n, api.OK
}

// Var tells n in as few bytes of seven bits as may be, the least first.
func Var(n int) ([]byte, api.Errno) {
	if n < 0 || n > maxVar {
		return nil, api.ErrRange
	}
	b := make([]byte, 0, varBytes)
	for n > 127 {
		b = append(b, byte(n&127|128))
		n >>= 7
	}
	return append(b, byte(n)), api.OK
}

// ReadVar tells the number that Var wrote at a place, and the place behind it.
func ReadVar(b []byte, at int) (int, int, api.Errno) {
	if at < 0 || at > len(b) {
		return 0, 0, api.ErrRange
	}
	n := 0
	for i := range varBytes {
		if at+i == len(b) {
			return 0, 0, api.ErrShort
		}
		c := b[at+i]
		n |= int(c&127) << (7 * i)
		if c > 127 {
			continue
		}
		// A last byte of no bits says that one byte less would have done.
		if c == 0 && i > 0 {
			return 0, 0, api.ErrForm
		}
		return n, at + i + 1, api.OK
	}
	return 0, 0, api.ErrForm
}

// Crc tells the CRC-32 of IEEE.
func Crc(b []byte) uint32 {
	sum := ^uint32(0)
	for _, c := range b {
		sum ^= uint32(c)
		sum = sum>>4 ^ nibbles[sum&15]
		sum = sum>>4 ^ nibbles[sum&15]
	}
	return ^sum
}

// Hex tells two digits of 16 a byte.
func Hex(b []byte) string {
	s := make([]byte, 0, 2*len(b))
	for _, c := range b {
		s = append(s, hexSigns[c>>4], hexSigns[c&15])
	}
	return string(s)
}

// Unhex tells the bytes whose Hex s is.
func Unhex(s string) ([]byte, bool) {
	if len(s)%2 != 0 {
		return nil, false
	}
	b := make([]byte, 0, len(s)/2)
	for i := 0; i < len(s); i += 2 {
		high, low := digit(s[i]), digit(s[i+1])
		if high < 0 || low < 0 {
			return nil, false
		}
		b = append(b, byte(high<<4|low))
	}
	return b, true
}

// digit tells what a small digit of 16 says, -1 if it is none.
func digit(c byte) int {
	switch {
	case c >= '0' && c <= '9':
		return int(c - '0')
	case c >= 'a' && c <= 'f':
		return int(c-'a') + 10
	}
	return -1
}

// Digits tells n in width decimal digits.
func Digits(n, width int) (string, bool) {
	if n < 0 || width < 1 || width > maxDigits {
		return "", false
	}
	b := make([]byte, width)
	for i := width - 1; i >= 0; i-- {
		b[i] = byte('0' + n%10)
		n /= 10
	}
	if n > 0 {
		return "", false
	}
	return string(b), true
}
