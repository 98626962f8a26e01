package world

import (
	"strconv"

	"handbill/disk"
	"handbill/proto"
)

const (
	actBytes  = 4
	firstTx   = 1<<20 + 1
	boot      = 1 << 20
	high      = 127
	otherBoot = 199
)

// Doc tells an RSS document.
func Doc(x, y int) []byte {
	x, y = max(x, 0), max(y, 0)
	s := "<rss><channel><title>t</title>"
	for i := range 1 + x%3 {
		s += "<item><guid>g" + strconv.Itoa((y%9+i)%9) + "</guid><title>i</title><link>l</link><pubDate>01 Jan 1970 00:00:" +
			seconds(10*((y%6+i)%6)) + " GMT</pubDate></item>"
	}
	return []byte(s + "</channel></rss>")
}

// seconds tells a number below 60 in two digits.
func seconds(n int) string {
	return strconv.Itoa(n/10) + strconv.Itoa(n%10)
}

// Acts tells a script that bytes stand for, four bytes an act.
func Acts(b []byte) []Act {
	var l []Act
	for len(b) >= actBytes && len(l) < mostActs {
		l = append(l, one(int(b[0]), int(b[1]), int(b[2]), int(b[3])))
		b = b[actBytes:]
	}
	return l
}

// one tells the act of four bytes.
func one(k, x, y, z int) Act {
	switch k % 16 {
	case 11, 12:
		return Act{Kind: Ingest, Name: either(y, "f", "g"), Bytes: Doc(x, z)}
	case 13:
		if z%2 == 1 {
			return Act{Kind: Check}
		}
		return Act{Kind: Prune}
	case 14:
		return trouble(x, y, z)
	case 15:
		return Act{Kind: Start}
	}
	b, _ := proto.Print(request(k%16, x, y, z))
	return Act{Kind: Ask, Bytes: b}
}

// either tells the first of two texts of an even number, the second one of an odd one.
func either(n int, even, odd string) string {
	if n%2 == 1 {
		return odd
	}
	return even
}

// trouble tells an act that lets something go wrong.
func trouble(x, y, z int) Act {
	if z > otherBoot {
		return Act{Kind: Fall, A: x % 4, B: z%9 - 1}
	}
	v := disk.Event{At: 1 + x%9, Kind: disk.Crashed, Keep: y % 4, Torn: z%9 - 1}
	if y > high {
		v.Kind = disk.NoRoom
	}
	return Act{Kind: Plan, Events: []disk.Event{v}}
}

// request tells what is asked by an act of a kind below 11.
func request(kind, x, y, z int) proto.Request {
	feed, tx := either(y, "f", "g"), firstTx+x%4
	if x > otherBoot {
		tx += boot
	}
	switch kind {
	case 0:
		return proto.Request{Op: "begin", User: either(x, "u", "v")}
	case 1:
		return proto.Request{Op: "commit", Tx: tx}
	case 2:
		if z%8 == 0 {
			return proto.Request{Op: "abort", Tx: tx}
		}
		return proto.Request{Op: "subs", Tx: tx}
	case 3:
		return proto.Request{Op: "subscribe", Tx: tx, Feed: feed, Name: either(z, "", "d")}
	case 4:
		return proto.Request{Op: "folder", Tx: tx, Name: "d"}
	case 5:
		return proto.Request{Op: "read", Tx: tx, Feed: feed, Entry: z % 5, On: z > high}
	case 6:
		return proto.Request{Op: "star", Tx: tx, Feed: feed, Entry: z % 5, On: z > high}
	case 7:
		return proto.Request{Op: "mark", Tx: tx, Feed: feed, Before: z % 60}
	case 8:
		return proto.Request{Op: "list", Tx: tx, Feed: feed, After: z%4 - 1, Limit: 2}
	case 9:
		return proto.Request{Op: "unread", Tx: tx, Feed: feed}
	}
	return proto.Request{Op: "sync", User: either(x, "u", "v"), Limit: 1 + z%5}
}
