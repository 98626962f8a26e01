package base_test

import (
	"bytes"
	"maps"
	"math"
	"math/rand"
	"slices"
	"strconv"
	"strings"
	"testing"

	"handbill/api"
	"handbill/base"
	"handbill/disk"
	"handbill/frame"
	"handbill/num"
)

func want(t *testing.T, what string, got, e api.Errno) {
	t.Helper()
	if got != e {
		t.Errorf("%s: %d, not %d", what, got, e)
	}
}

func fresh() *disk.Disk {
	d, _ := disk.New(1 << 24)
	return d
}

func open(t *testing.T, d *disk.Disk) *base.Base {
	t.Helper()
	b, e := base.Open(d, 64)
	if e != api.OK || b == nil {
		t.Fatalf("P13.2: Open: %d", e)
	}
	return b
}

// at tells all that is to be seen at a time.
func at(b *base.Base, when int) map[string]string {
	return maps.Collect(b.At(when).Scan("", ""))
}

// commit puts keys and values (of a value "-" it deletes).
func commit(b *base.Base, l ...string) (int, api.Errno) {
	x := b.Begin()
	for i := 0; i < len(l); i += 2 {
		if l[i+1] == "-" {
			x.Delete(l[i])
		} else {
			x.Put(l[i], l[i+1])
		}
	}
	return b.Commit(x)
}

func commits(t *testing.T, b *base.Base, want int, l ...string) {
	t.Helper()
	if n, e := commit(b, l...); n != want || e != api.OK {
		t.Errorf("P13.3: Commit: %d, %d; not %d", n, e, want)
	}
}

func sees(t *testing.T, what string, b *base.Base, when int, want map[string]string) {
	t.Helper()
	if got := at(b, when); !maps.Equal(got, want) {
		t.Errorf("%s: at %d: %v, not %v", what, when, got, want)
	}
}

func write(key, value string) api.Write { return api.Write{Key: key, Value: value} }
func gone(key string) api.Write         { return api.Write{Key: key, Gone: true} }

func TestEncode(t *testing.T) {
	for i, c := range []struct {
		at   int
		l    []api.Write
		want string
	}{
		{1, nil, "\x01\x00"}, {300, []api.Write{write("k", "v")}, "\xac\x02\x01\x00\x01k\x01v"}, {7, []api.Write{gone("a"), write("b", ""), write("ba", "\xff")}, "\x07\x03\x01\x01a\x00\x01b\x00\x00\x02ba\x01\xff"},
		{api.MaxTime, []api.Write{gone("\x00")}, "\x80\x80\x80\x80\x80\x20\x01\x01\x01\x00"},
	} {
		b, e := base.Encode(c.at, c.l)
		if string(b) != c.want || e != api.OK {
			t.Errorf("P13.1: case %d: %q, %d", i, b, e)
		}
		n, l, e := base.Decode(b)
		if n != c.at || !slices.Equal(l, c.l) || e != api.OK {
			t.Errorf("P13.1: case %d is read as %d, %v, %d", i, n, l, e)
		}
	}
	for _, n := range []int{0, -1, api.MaxTime + 1, math.MaxInt, math.MinInt} {
		b, e := base.Encode(n, []api.Write{write("", "")})
		if len(b) > 0 || e != api.ErrRange {
			t.Errorf("P13.1: Encode at %d: %d", n, e)
		}
	}
	key, value := strings.Repeat("k", api.MaxKey), strings.Repeat("v", api.MaxValue)
	many := make([]api.Write, api.MaxWrites+1)
	for i := range many {
		s, _ := num.Digits(i, 6)
		many[i].Key = s
	}
	for i, l := range [][]api.Write{
		{write("", "v")}, {write("b", ""), write("a", "")}, {write("a", ""), write("a", "")}, {write("a", ""), gone("a")}, {write(key+"k", "")}, {write("k", value+"v")}, {gone(key + "k")},
		{{Key: "a", Value: "v", Gone: true}}, many, {gone("")},
	} {
		if b, e := base.Encode(1, l); len(b) > 0 || e != api.ErrForm {
			t.Errorf("P13.1: wrong, case %d: %d", i, e)
		}
	}
	for i, l := range [][]api.Write{{write(key, value)}, many[1:], many[:api.MaxWrites]} {
		b, e := base.Encode(1, l)
		if _, back, _ := base.Decode(b); e != api.OK || !slices.Equal(back, l) {
			t.Errorf("P13.1: great, case %d: %d", i, e)
		}
	}
}

func TestDecodeWrong(t *testing.T) {
	key, value := strings.Repeat("k", api.MaxKey+1), strings.Repeat("v", api.MaxValue+1)
	long := func(b []byte, s string) []byte {
		n, _ := num.Var(len(s))
		return append(append(b, n...), s...)
	}
	for i, b := range [][]byte{
		nil, {1}, {0, 0}, {1, 0, 0}, {1, 1}, {1, 1, 0}, {1, 1, 0, 1}, {1, 1, 0, 1, 'k'}, {1, 1, 0, 1, 'k', 1}, {1, 1, 0, 1, 'k', 1, 'v', 0}, {1, 1, 1, 1, 'k', 0}, {1, 1, 2, 1, 'k', 0}, {1, 1, 255, 1, 'k'},
		{1, 1, 1, 0}, {1, 1, 0, 0, 0}, {128, 0, 0}, {1, 128, 0}, {1, 1, 0, 129, 0, 'k', 0}, {1, 2, 1, 1, 'b', 1, 1, 'a'}, {1, 2, 1, 1, 'a', 1, 1, 'a'}, {1, 2, 1, 1, 'a'},
		{255, 255, 255, 255, 255, 255, 255, 127, 0}, {1, 255, 255, 255, 255, 255, 255, 255, 127}, {1, 1, 0, 255, 255, 255, 255, 255, 255, 255, 127}, {0x81, 0x80, 0x80, 0x80, 0x80, 0x20, 0},
		long([]byte{1, 1, 1}, key), append(long([]byte{1, 1, 0}, key), 0), long([]byte{1, 1, 0, 1, 'k'}, value),
	} {
		if n, l, e := base.Decode(b); n != 0 || len(l) > 0 || e != api.ErrForm {
			t.Errorf("P13.1: case %d: %d, %v, %d", i, n, l, e)
		}
	}
	var b []byte
	b = append(b, 1, 0xE9, 7)
	for i := range api.MaxWrites + 1 {
		s, _ := num.Digits(i, 6)
		b = long(append(b, 1), s)
	}
	if _, l, e := base.Decode(b); len(l) > 0 || e != api.ErrForm {
		t.Errorf("P13.1: too many writes: %d", e)
	}
	whole, _ := base.Encode(77777, []api.Write{gone("a"), write("b", "xyz")})
	for n := range whole {
		if _, l, e := base.Decode(whole[:n]); len(l) > 0 || e != api.ErrForm {
			t.Errorf("P13.1: cut at %d: %d", n, e)
		}
	}
}

func TestCommit(t *testing.T) {
	b := open(t, fresh())
	if b.Now() != 0 || b.Low() != 0 || b.Count() != 0 {
		t.Error("P13.2: an empty base")
	}
	if n, e := commit(b); n != 0 || e != api.OK || b.Disk().Used() != 0 {
		t.Errorf("P13.3: without writes: %d, %d", n, e)
	}
	commits(t, b, 1, "a", "1", "b", "1")
	commits(t, b, 2, "b", "-", "none", "-")
	x := b.Begin()
	commits(t, b, 3, "a", "3")
	if n, e := b.Commit(x); n != 2 || e != api.OK {
		t.Errorf("P13.3: without writes: %d, %d", n, e)
	}
	if b.Now() != 3 || b.Count() != 5 || b.Low() != 0 {
		t.Errorf("P13.2: Now %d, Count %d, Low %d", b.Now(), b.Count(), b.Low())
	}
	history := []map[string]string{{}, {"a": "1", "b": "1"}, {"a": "1"}, {"a": "3"}}
	again := open(t, b.Disk())
	for when, m := range history {
		sees(t, "P13.3", b, when, m)
		sees(t, "P13.2: opened once more", again, when, m)
	}
	if again.Now() != 3 || again.Count() != 5 || again.Low() != 0 || again.Begin().At() != 3 || again.At(1).At() != 1 {
		t.Errorf("P13.2: opened once more: Now %d, Count %d", again.Now(), again.Count())
	}
}

func TestClash(t *testing.T) {
	b := open(t, fresh())
	commits(t, b, 1, "a", "1")
	x, y, z := b.Begin(), b.Begin(), b.Begin()
	x.Put("a", "x")
	y.Put("a", "y")
	y.Put("c", "y")
	z.Put("b", "z")
	if n, e := b.Commit(x); n != 2 || e != api.OK {
		t.Errorf("P13.3: %d, %d", n, e)
	}
	used := b.Disk().Used()
	for range 2 {
		if n, e := b.Commit(y); n != 0 || e != api.ErrClash || b.Disk().Used() != used || b.Now() != 2 {
			t.Errorf("P13.3: the second one: %d, %d", n, e)
		}
	}
	if n, e := b.Commit(z); n != 3 || e != api.OK {
		t.Errorf("P13.3: of another key: %d, %d", n, e)
	}
	if n, e := b.Commit(x); n != 0 || e != api.ErrClash {
		t.Errorf("P13.3: committed twice: %d, %d", n, e)
	}
	sees(t, "P13.6: what clashes is never to be seen", b, 3, map[string]string{"a": "x", "b": "z"})
	sees(t, "P13.6: what clashes is never to be seen", open(t, b.Disk()), 3, map[string]string{"a": "x", "b": "z"})
	old, empty := b.At(2), b.At(2)
	old.Put("new", "x")
	if n := b.Prune(3); n != 1 {
		t.Errorf("P13.4: Prune: %d", n)
	}
	if n, e := b.Commit(old); n != 0 || e != api.ErrClash {
		t.Errorf("P13.3: below Low: %d, %d", n, e)
	}
	if n, e := b.Commit(empty); n != 2 || e != api.OK {
		t.Errorf("P13.3: below Low, without writes: %d, %d", n, e)
	}
}

func TestCommitErrors(t *testing.T) {
	b := open(t, fresh())
	commits(t, b, 1, "a", "1")
	b.Disk().Plan([]disk.Event{{At: b.Disk().Calls() + 1, Kind: disk.NoRoom}})
	x := b.Begin()
	x.Put("a", "x")
	if n, e := b.Commit(x); n != 0 || e != api.ErrFull || b.Now() != 1 || b.Count() != 1 {
		t.Errorf("P13.3: no room: %d, %d", n, e)
	}
	sees(t, "P13.6: what had no room is never to be seen", b, 9, map[string]string{"a": "1"})
	sees(t, "P13.6: what had no room is never to be seen", open(t, b.Disk()), 9, map[string]string{"a": "1"})
	if n, e := b.Commit(x); n != 2 || e != api.OK {
		t.Errorf("P13.3: behind ErrFull: %d, %d", n, e)
	}
	y := b.Begin()
	for i := range 11 {
		y.Put("k"+strconv.Itoa(i), strings.Repeat("v", 5990))
	}
	if n, e := b.Commit(y); n != 0 || e != api.ErrLong || b.Now() != 2 {
		t.Errorf("P13.3: a record that is too long: %d, %d", n, e)
	}
	b.Disk().Crash(0, 0)
	if n, e := commit(b, "a", "2"); n != 0 || e != api.ErrDown || b.Now() != 2 {
		t.Errorf("P13.3: down: %d, %d", n, e)
	}
	want(t, "P13.4: Check, down", b.Check(), api.ErrDown)
	if b, e := base.Open(b.Disk(), 64); b != nil || e != api.ErrDown {
		t.Errorf("P13.2: Open, down: %d", e)
	}
	if b, e := base.Open(fresh(), 15); b != nil || e != api.ErrRange {
		t.Errorf("P13.2: Open, a small segment: %d", e)
	}
	d := fresh()
	rec, _ := base.Encode(api.MaxTime, []api.Write{write("a", "1")})
	f, _ := frame.Put(rec)
	d.Append("w000001", f)
	b = open(t, d)
	if n, e := commit(b, "a", "2"); n != 0 || e != api.ErrLimit || b.Now() != api.MaxTime {
		t.Errorf("P13.3: behind the last time: %d, %d", n, e)
	}
	if n, e := commit(b); n != api.MaxTime || e != api.OK {
		t.Errorf("P13.3: without writes: %d, %d", n, e)
	}
}

// lay writes records as a file.
func lay(d *disk.Disk, name string, recs ...[]byte) {
	var all []byte
	for _, r := range recs {
		f, _ := frame.Put(r)
		all = append(all, f...)
	}
	d.Append(name, all)
}

func encode(at int, l ...api.Write) []byte {
	b, _ := base.Encode(at, l)
	return b
}

func TestOpenCheckpoint(t *testing.T) {
	d := fresh()
	lay(d, "c", encode(5, write("a", "5"), write("c", "5")), encode(5, write("b", "5")))
	lay(d, "w000003", encode(3, write("a", "3")), encode(5, gone("a")), encode(6, write("d", "6")), encode(6, write("e", "6")), encode(4, write("f", "4")), encode(9, gone("a"), write("b", "9")))
	lay(d, "w000004", encode(8, write("g", "8")), encode(10, write("h", "10")))
	b := open(t, d)
	if b.Now() != 10 || b.Low() != 5 || b.Count() != 7 {
		t.Errorf("P13.2: Now %d, Low %d, Count %d", b.Now(), b.Low(), b.Count())
	}
	sees(t, "P13.2", b, 5, map[string]string{"a": "5", "b": "5", "c": "5"})
	sees(t, "P13.2", b, 8, map[string]string{"a": "5", "b": "5", "c": "5", "d": "6"})
	sees(t, "P13.2", b, 10, map[string]string{"b": "9", "c": "5", "d": "6", "h": "10"})
	sees(t, "P13.2", b, 4, nil)
	x := b.At(4)
	x.Put("z", "z")
	if _, e := b.Commit(x); e != api.ErrClash {
		t.Errorf("P13.3: below Low: %d", e)
	}
}

func TestOpenWrong(t *testing.T) {
	for i, lay1 := range []func(d *disk.Disk){
		func(d *disk.Disk) { lay(d, "c", []byte("x")) },
		func(d *disk.Disk) { lay(d, "c", encode(5, write("a", "1")), encode(6, write("b", "1"))) },
		func(d *disk.Disk) { lay(d, "c", encode(5, write("a", "1")), encode(4, write("b", "1"))) },
		func(d *disk.Disk) { lay(d, "c", encode(5, write("a", "1")), encode(5, write("a", "2"))) },
		func(d *disk.Disk) { lay(d, "c", encode(5, gone("a"))) },
		func(d *disk.Disk) { lay(d, "c", encode(5, write("a", "1")), encode(5, gone("b"))) },
		func(d *disk.Disk) { lay(d, "w000001", []byte("x")) },
		func(d *disk.Disk) { lay(d, "w000001", encode(5, write("a", "1")), nil) },
		func(d *disk.Disk) { lay(d, "w000001", encode(5, write("a", "1")), append(encode(4, gone("a")), 0)) },
	} {
		d := fresh()
		lay1(d)
		if b, e := base.Open(d, 64); b != nil || e != api.ErrForm {
			t.Errorf("P13.2: case %d: %d", i, e)
		}
	}
	d := fresh()
	d.Append("c", []byte("x"))
	if b, e := base.Open(d, 64); b != nil || e != api.ErrSum {
		t.Errorf("P13.2: a checkpoint that is torn: %d", e)
	}
}

func TestPrune(t *testing.T) {
	b := open(t, fresh())
	for i := range 5 {
		commits(t, b, i+1, "a", strconv.Itoa(i+1))
	}
	for _, low := range []int{6, math.MaxInt, 0, -1, math.MinInt} {
		if n := b.Prune(low); n != 0 || b.Low() != 0 || b.Count() != 5 {
			t.Errorf("P13.4: Prune(%d) = %d", low, n)
		}
	}
	if n := b.Prune(3); n != 2 || b.Low() != 3 || b.Count() != 3 {
		t.Errorf("P13.4: Prune(3) = %d, Low %d, Count %d", n, b.Low(), b.Count())
	}
	if n := b.Prune(5); n != 2 || b.Low() != 5 || b.Now() != 5 {
		t.Errorf("P13.4: Prune(5) = %d", n)
	}
	if b := open(t, b.Disk()); b.Low() != 0 || b.Count() != 5 {
		t.Errorf("P13.2: opened once more: Low %d, Count %d", b.Low(), b.Count())
	}
}

func TestCheck(t *testing.T) {
	b := open(t, fresh())
	calls := b.Disk().Calls()
	want(t, "P13.4: Check at Now 0", b.Check(), api.OK)
	commits(t, b, 1, "a", "1")
	commits(t, b, 2, "a", "-")
	calls = b.Disk().Calls()
	want(t, "P13.4: Check without any pair", b.Check(), api.OK)
	if b.Disk().Calls() != calls {
		t.Error("P13.4: without any pair nothing is done")
	}
	m := map[string]string{}
	for i := range 19 {
		k := "k" + strconv.Itoa(10+i)
		commits(t, b, i+3, k, "v")
		m[k] = "v"
	}
	want(t, "P13.4: Check", b.Check(), api.OK)
	raw, _ := b.Disk().Peek("c")
	recs, _ := frame.All(raw)
	sizes := []int{8, 8, 3}
	for i, r := range recs {
		n, l, e := base.Decode(r)
		if n != 21 || e != api.OK || i > 2 || len(l) != sizes[i] || l[0].Key != "k"+strconv.Itoa(10+8*i) {
			t.Errorf("P13.4: record %d: %d, %v, %d", i, n, l, e)
		}
	}
	if len(recs) != 3 || b.Low() != 0 || b.Now() != 21 {
		t.Errorf("P13.4: %d records; Low %d, Now %d", len(recs), b.Low(), b.Now())
	}
	sees(t, "P13.4: earlier times stay", b, 1, map[string]string{"a": "1"})
	commits(t, b, 22, "z", "z")
	m["z"] = "z"
	b = open(t, b.Disk())
	if b.Low() != 21 || b.Now() != 22 || b.Count() != 20 {
		t.Errorf("P13.2: behind Check: Low %d, Now %d, Count %d", b.Low(), b.Now(), b.Count())
	}
	sees(t, "P13.2: behind Check", b, 22, m)
}

func TestGreatCheck(t *testing.T) {
	b := open(t, fresh())
	for i := range 9 {
		k := strings.Repeat("k", api.MaxKey-1) + strconv.Itoa(i)
		commits(t, b, i+1, k, strings.Repeat("v", api.MaxValue))
	}
	want(t, "P13.4: records of the greatest rows", b.Check(), api.OK)
	if b := open(t, b.Disk()); b.Count() != 9 || b.Low() != 9 {
		t.Errorf("P13.4: %d rows", b.Count())
	}
	b.Disk().Plan([]disk.Event{{At: b.Disk().Calls() + 1, Kind: disk.NoRoom}})
	want(t, "P13.4: no room", b.Check(), api.ErrFull)
}

// TestCrashes lets the machine fall at each call of a history, with each part of what is pending kept.
func TestCrashes(t *testing.T) {
	r := rand.New(rand.NewSource(15))
	for n := 1; ; n++ {
		fell := false
		for keep := range 4 {
			for _, torn := range []int{-1, 0, 3, 7, 11, 14} {
				d := fresh()
				b, _ := base.Open(d, 32)
				d.Plan([]disk.Event{{At: d.Calls() + n, Kind: disk.Crashed, Keep: keep, Torn: torn}})
				history, done := live(r, b)
				fell = fell || !d.Up()
				d.Plan(nil)
				d.Crash(keep, torn)
				d.Reboot()
				came(t, d, history, done)
			}
		}
		if !fell || t.Failed() {
			return
		}
	}
}

// live commits, prunes and checks until the machine falls. It tells what was to be seen at each time, that of the commit
// under way too, and the last time that was answered.
func live(r *rand.Rand, b *base.Base) ([]map[string]string, int) {
	history := []map[string]string{{}}
	for i := range 14 {
		k, v := string(rune('a'+r.Intn(3))), strconv.Itoa(i)
		m := maps.Clone(history[len(history)-1])
		if m[k] = v; r.Intn(4) == 0 {
			v = "-"
			delete(m, k)
		}
		history = append(history, m)
		if _, e := commit(b, k, v); e != api.OK {
			return history, i
		}
		if i%5 == 4 && b.Check() != api.OK {
			return history, i + 1
		}
		if i%3 == 2 {
			b.Prune(i - 1)
		}
	}
	return history, 14
}

func came(t *testing.T, d *disk.Disk, history []map[string]string, done int) {
	t.Helper()
	b := open(t, d)
	if b.Now() != done && (b.Now() != done+1 || b.Now() >= len(history)) {
		t.Fatalf("P13.6: Now %d behind %d commits", b.Now(), done)
	}
	for when := b.Low(); when <= b.Now(); when++ {
		sees(t, "P13.6", b, when, history[when])
	}
	if n, e := commit(b, "new", "x"); n != max(b.Now(), 1) || e != api.OK {
		t.Fatalf("P13.6: a commit behind a crash: %d, %d", n, e)
	}
}

// TestFirstCommitterWins commits at random, and holds that of two that write one key one began behind the other.
func TestFirstCommitterWins(t *testing.T) {
	r := rand.New(rand.NewSource(16))
	type done struct{ began, ended, key int }
	b := open(t, fresh())
	var l []done
	for range 400 {
		began := max(0, b.Now()-r.Intn(4))
		x, k := b.At(began), r.Intn(6)
		x.Put("k"+strconv.Itoa(k), "v")
		n, e := b.Commit(x)
		clash := slices.ContainsFunc(l, func(d done) bool { return d.key == k && d.ended > began })
		if clash != (e == api.ErrClash) || !clash && n != len(l)+1 {
			t.Fatalf("P13.7: %d, %d; clash: %v", n, e, clash)
		}
		if e == api.OK {
			l = append(l, done{began, n, k})
		}
	}
}

func TestNewMemory(t *testing.T) {
	l := []api.Write{write("a", "1"), gone("b")}
	x, _ := base.Encode(1, l)
	y, _ := base.Encode(1, l)
	kept := bytes.Clone(y)
	x[0] = '?'
	_ = append(x[:2], '?')
	if !bytes.Equal(y, kept) || !slices.Equal(l, []api.Write{write("a", "1"), gone("b")}) {
		t.Error("P13.5: Encode shares memory")
	}
	_, m, _ := base.Decode(y)
	_, n, _ := base.Decode(y)
	m[0].Key = "spoilt"
	_ = append(m[:1], write("spoilt", ""))
	if !bytes.Equal(y, kept) || !slices.Equal(n, l) {
		t.Error("P13.5: Decode shares memory")
	}
	clear(y)
	if !slices.Equal(n, l) {
		t.Error("P13.5: Decode keeps what is handed in")
	}
}
