package wal_test

import (
	"bytes"
	"math"
	"slices"
	"strconv"
	"strings"
	"testing"

	"handbill/api"
	"handbill/disk"
	"handbill/frame"
	"handbill/wal"
)

func fresh() *disk.Disk {
	d, _ := disk.New(1 << 24)
	return d
}

func recs(l ...string) [][]byte {
	var b [][]byte
	for _, s := range l {
		b = append(b, []byte(s))
	}
	return b
}

func texts(l [][]byte) []string {
	var s []string
	for _, b := range l {
		s = append(s, string(b))
	}
	return s
}

func frames(l ...string) []byte {
	var all []byte
	for _, s := range l {
		b, _ := frame.Put([]byte(s))
		all = append(all, b...)
	}
	return all
}

func open(t *testing.T, d *disk.Disk, segment int) (*wal.Log, []string, []string) {
	t.Helper()
	l, c, r, e := wal.Open(d, segment)
	if e != api.OK || l == nil {
		t.Fatalf("P10.1: Open: %d", e)
	}
	return l, texts(c), texts(r)
}

func opens(t *testing.T, what string, d *disk.Disk, checked, appended []string) *wal.Log {
	t.Helper()
	l, c, r := open(t, d, 64)
	if !slices.Equal(c, checked) || !slices.Equal(r, appended) {
		t.Errorf("%s: %q and %q, not %q and %q", what, c, r, checked, appended)
	}
	return l
}

func stands(t *testing.T, what string, l *wal.Log, number, size int) {
	t.Helper()
	if l.Number() != number || l.Size() != size {
		t.Errorf("%s: number %d, size %d; not %d, %d", what, l.Number(), l.Size(), number, size)
	}
}

func names(d *disk.Disk) string { return strings.Join(slices.Collect(d.Names()), " ") }

func TestName(t *testing.T) {
	for n, want := range map[int]string{1: "w000001", 10: "w000010", 999999: "w999999", 0: "", -1: "", 1000000: "", math.MaxInt: "", math.MinInt: ""} {
		if got := wal.Name(n); got != want {
			t.Errorf("P10.1: Name(%d) = %q", n, got)
		}
	}
}

func TestOpenEmpty(t *testing.T) {
	for _, segment := range []int{15, 0, -1, 1<<20 + 1, math.MaxInt, math.MinInt} {
		d := fresh()
		if l, c, r, e := wal.Open(d, segment); l != nil || len(c)+len(r) > 0 || e != api.ErrRange || d.Calls() != 0 {
			t.Errorf("P10.1: Open with a segment of %d: %d, %d calls", segment, e, d.Calls())
		}
	}
	for _, segment := range []int{16, 1 << 20} {
		l, c, r := open(t, fresh(), segment)
		if len(c)+len(r) > 0 {
			t.Errorf("P10.1: %q, %q", c, r)
		}
		stands(t, "P10.1: an empty log", l, 1, 0)
	}
}

func TestAppend(t *testing.T) {
	d := fresh()
	l, _, _ := open(t, d, 16)
	for i, c := range []struct {
		rec          string
		number, size int
	}{{"a", 1, 7}, {"bc", 1, 15}, {"", 2, 6}, {"1234", 2, 16}, {"x", 3, 7}, {strings.Repeat("y", 100), 4, 106}, {"z", 5, 7}, {strings.Repeat("u", 10), 6, 16}, {"", 7, 6}} {
		if e := l.Append([]byte(c.rec)); e != api.OK {
			t.Errorf("P10.2: Append %d: %d", i, e)
		}
		stands(t, "P10.2: Append "+strconv.Itoa(i), l, c.number, c.size)
	}
	if b, _ := d.Peek("w000001"); !bytes.Equal(b, frames("a", "bc")) {
		t.Errorf("P10.2: the first segment: %q", b)
	}
	if names(d) != "w000001 w000002 w000003 w000004 w000005 w000006 w000007" {
		t.Errorf("P10.2: %s", names(d))
	}
	if e := l.Append(make([]byte, api.MaxFrame+1)); e != api.ErrLong {
		t.Errorf("P10.2: one that is too long: %d", e)
	}
	stands(t, "P10.2: behind an error", l, 7, 6)
	d.Crash(0, -1)
	d.Reboot()
	l, c, r := open(t, d, 16)
	if len(c) > 0 || !slices.Equal(r, []string{"a", "bc", "", "1234", "x", strings.Repeat("y", 100), "z", strings.Repeat("u", 10), ""}) {
		t.Errorf("P10.2: what is appended is durable: %q, %q", c, r)
	}
	stands(t, "P10.1: opened once more", l, 7, 6)
	l.Append([]byte("1234"))
	stands(t, "P10.2: behind Open", l, 7, 16)
}

func TestGreatFirst(t *testing.T) {
	d := fresh()
	l, _, _ := open(t, d, 16)
	calls := d.Calls()
	if e := l.Append(make([]byte, 100)); e != api.OK || d.Calls() != calls+2 {
		t.Errorf("P10.2: Append: %d, %d calls", e, d.Calls()-calls)
	}
	stands(t, "P10.2: one above the segment, in an empty one", l, 1, 106)
}

// TestCallsOfCheck counts them: Append, Sync, Rename, Sync, a Delete of each segment from the least one on, Sync.
func TestCallsOfCheck(t *testing.T) {
	for _, c := range []struct {
		files   []string
		appends int
		calls   int
	}{{nil, 0, 6}, {nil, 1, 6}, {nil, 3, 8}, {[]string{"w000005"}, 0, 6}, {[]string{"w000005"}, 1, 7}, {[]string{"w000005", "w000008"}, 0, 9}} {
		d := fresh()
		for _, name := range c.files {
			d.Append(name, frames("abcdefgh"))
		}
		l, _, _ := open(t, d, 16)
		for range c.appends {
			l.Append([]byte("abcdefgh"))
		}
		before := d.Calls()
		if e := l.Check(recs("p")); e != api.OK || d.Calls() != before+c.calls {
			t.Errorf("P10.3: %v and %d appended: %d, %d calls", c.files, c.appends, e, d.Calls()-before)
		}
	}
}

func TestAppendErrors(t *testing.T) {
	d := fresh()
	l, _, _ := open(t, d, 16)
	l.Append([]byte("abcdef"))
	calls := d.Calls()
	d.Plan([]disk.Event{{At: calls + 1, Kind: disk.NoRoom}})
	if e := l.Append([]byte("gh")); e != api.ErrFull {
		t.Errorf("P10.2: no room: %d", e)
	}
	stands(t, "P10.2: behind ErrFull", l, 1, 12)
	if e := l.Append([]byte("gh")); e != api.OK {
		t.Errorf("P10.2: behind ErrFull: %d", e)
	}
	stands(t, "P10.2: behind ErrFull", l, 2, 8)
	for n := range 2 {
		c := d.Copy()
		k, _, _ := open(t, c, 16)
		c.Plan([]disk.Event{{At: c.Calls() + 1 + n, Kind: disk.Crashed, Keep: 9}})
		if e := k.Append([]byte("ijkl")); e != api.ErrDown {
			t.Errorf("P10.2: a crash at call %d: %d", n, e)
		}
		stands(t, "P10.2: behind a crash", k, 2, 8)
		c.Reboot()
		opens(t, "P10.5", c, nil, [][]string{{"abcdef", "gh"}, {"abcdef", "gh", "ijkl"}}[n])
	}
	d = fresh()
	d.Append("w999999", frames("abcdefgh"))
	l, _, _ = open(t, d, 16)
	stands(t, "P10.1: the last segment", l, 999999, 14)
	if e := l.Append([]byte("x")); e != api.ErrLimit {
		t.Errorf("P10.2: above 999999: %d", e)
	}
	stands(t, "P10.2: behind ErrLimit", l, 999999, 14)
	if e := l.Check(recs("c")); e != api.ErrLimit {
		t.Errorf("P10.3: above 999999: %d", e)
	}
	if e := l.Check(recs("c", strings.Repeat("x", api.MaxFrame+1))); e != api.ErrLong {
		t.Errorf("P10.3: too long, ahead of ErrLimit: %d", e)
	}
	if names(d) != "w999999" {
		t.Errorf("P10.3: behind ErrLimit: %s", names(d))
	}
}

func TestOpenFiles(t *testing.T) {
	d := fresh()
	d.Append("c.new", []byte("half of one"))
	d.Append("c", frames("p", "q"))
	d.Append("w000009", frames("c"))
	d.Append("w000002", frames("a", "b"))
	d.Append("w000010", nil)
	for _, other := range []string{"w000000", "w00001", "w0000001", "v000001", "w00000a", "w", "other", "w0000-1", "w.00001", "w1000000"} {
		d.Append(other, []byte("x"))
	}
	l := opens(t, "P10.1", d, []string{"p", "q"}, []string{"a", "b", "c"})
	stands(t, "P10.1", l, 10, 0)
	if _, ok := d.Peek("c.new"); ok {
		t.Error("P10.1: c.new stays")
	}
	if b, _ := d.Peek("w000000"); string(b) != "x" {
		t.Error("P10.1: what is no segment is changed")
	}
	d = fresh()
	d.Append("c", append(frames("p"), 1))
	if l, c, r, e := wal.Open(d, 64); l != nil || len(c)+len(r) > 0 || e != api.ErrSum {
		t.Errorf("P10.1: a checkpoint that is torn: %d", e)
	}
	d = fresh()
	d.Append("c", nil)
	opens(t, "P10.1: an empty checkpoint", d, nil, nil)
}

func TestOpenTorn(t *testing.T) {
	d := fresh()
	d.Append("w000001", frames("a"))
	d.Append("w000003", append(frames("b", "c"), frames("torn")[:9]...))
	d.Append("w000004", frames("d"))
	d.Append("w000007", []byte("none"))
	d.Append("w000000", []byte("other"))
	d.Sync()
	l := opens(t, "P10.1: torn", d, nil, []string{"a", "b", "c"})
	stands(t, "P10.1: torn", l, 3, 14)
	if names(d) != "w000000 w000001 w000003" {
		t.Errorf("P10.1: torn: %s", names(d))
	}
	d.Crash(0, -1)
	d.Reboot()
	if b, _ := d.Peek("w000003"); names(d) != "w000000 w000001 w000003" || !bytes.Equal(b, frames("b", "c")) {
		t.Errorf("P10.1: the cut is durable: %s, %q", names(d), b)
	}
	l = opens(t, "P10.5: opened once more", d, nil, []string{"a", "b", "c"})
	l.Append([]byte("e"))
	opens(t, "P10.2: behind a cut", d, nil, []string{"a", "b", "c", "e"})

	d = fresh()
	d.Append("w000002", []byte{1})
	d.Append("w000003", frames("x"))
	l = opens(t, "P10.1: nothing but torn", d, nil, nil)
	stands(t, "P10.1: nothing but torn", l, 2, 0)
	l.Append([]byte("y"))
	opens(t, "P10.1: nothing but torn", d, nil, []string{"y"})
}

// TestOpenDown lets the machine fall at each call of Open.
func TestOpenDown(t *testing.T) {
	make1 := func() *disk.Disk {
		d := fresh()
		d.Append("c.new", []byte("half"))
		d.Append("c", frames("p"))
		d.Append("w000001", frames("a"))
		d.Append("w000002", append(frames("b"), 9))
		d.Sync()
		return d
	}
	falls := 0
	for n := 1; ; n++ {
		d := make1()
		d.Plan([]disk.Event{{At: d.Calls() + n, Kind: disk.Crashed, Keep: n % 4}})
		l, c, r, e := wal.Open(d, 64)
		if e == api.OK {
			break
		}
		falls++
		if l != nil || len(c)+len(r) > 0 || e != api.ErrDown {
			t.Errorf("P10.1: a crash at call %d: %d", n, e)
		}
		d.Reboot()
		opens(t, "P10.5: a crash in Open", d, []string{"p"}, []string{"a", "b"})
	}
	if falls < 6 {
		t.Errorf("P10.1: Open has %d calls", falls)
	}
}

func TestCheck(t *testing.T) {
	d := fresh()
	l, _, _ := open(t, d, 16)
	for _, s := range []string{"a", "b", "c", "d", "e"} {
		l.Append([]byte(s))
	}
	stands(t, "P10.2", l, 3, 7)
	if e := l.Check(recs("p", "", "q")); e != api.OK {
		t.Errorf("P10.3: Check: %d", e)
	}
	stands(t, "P10.3: Check", l, 4, 0)
	if b, _ := d.Peek("c"); names(d) != "c" || !bytes.Equal(b, frames("p", "", "q")) {
		t.Errorf("P10.3: %s, %q", names(d), b)
	}
	d.Crash(0, -1)
	d.Reboot()
	opens(t, "P10.3: Check is durable", d, []string{"p", "", "q"}, nil)

	d = fresh()
	d.Append("w000005", frames("a"))
	l, _, _ = open(t, d, 16)
	l.Append([]byte("b"))
	l.Append([]byte("c"))
	l.Check(recs("p"))
	stands(t, "P10.3: Check", l, 7, 0)
	l.Append([]byte("d"))
	stands(t, "P10.3: Append behind Check", l, 7, 7)
	opens(t, "P10.3: Append behind Check", d, []string{"p"}, []string{"d"})
	if names(d) != "c w000007" {
		t.Errorf("P10.3: %s", names(d))
	}
	l.Append([]byte("0123456789"))
	l.Check(nil)
	stands(t, "P10.3: Check behind Check", l, 9, 0)
	if b, ok := d.Peek("c"); names(d) != "c" || len(b) > 0 || !ok {
		t.Errorf("P10.3: Check of nothing: %s", names(d))
	}
	opens(t, "P10.3: Check of nothing", d, nil, nil)
}

func TestCheckErrors(t *testing.T) {
	d := fresh()
	l, _, _ := open(t, d, 64)
	l.Append([]byte("a"))
	if e := l.Check(recs("p", strings.Repeat("x", api.MaxFrame+1))); e != api.ErrLong {
		t.Errorf("P10.3: one that is too long: %d", e)
	}
	d.Plan([]disk.Event{{At: d.Calls() + 1, Kind: disk.NoRoom}})
	if e := l.Check(recs("p")); e != api.ErrFull {
		t.Errorf("P10.3: no room: %d", e)
	}
	stands(t, "P10.3: behind an error", l, 1, 7)
	if names(d) != "w000001" {
		t.Errorf("P10.3: behind an error: %s", names(d))
	}
	l.Append([]byte("b"))
	opens(t, "P10.3: behind an error", d, nil, []string{"a", "b"})
	if e := l.Check(recs("p")); e != api.OK {
		t.Errorf("P10.3: behind an error: %d", e)
	}
	opens(t, "P10.3: behind an error", d, []string{"p"}, nil)
}

// act is an Append of one record, or a Check.
type act struct {
	recs  []string
	check bool
}

// run does acts until one answers an error, and tells how many were OK.
func run(l *wal.Log, acts []act) int {
	for i, a := range acts {
		e := api.OK
		if a.check {
			e = l.Check(recs(a.recs...))
		} else {
			e = l.Append([]byte(a.recs[0]))
		}
		if e != api.OK {
			return i
		}
	}
	return len(acts)
}

// after tells the checkpoint and the records behind acts.
func after(acts []act) ([]string, []string) {
	var checked, appended []string
	for _, a := range acts {
		if a.check {
			checked, appended = a.recs, nil
		} else {
			appended = append(appended, a.recs[0])
		}
	}
	return checked, appended
}

// TestCrashes lets the machine fall at each call, with each part of what is pending kept.
func TestCrashes(t *testing.T) {
	acts := []act{{recs: []string{"a"}}, {recs: []string{"bb"}}, {recs: []string{"ccc"}}, {recs: []string{"p", "q"}, check: true}, {recs: []string{"d"}}, {recs: []string{"eeeeeeeeeeee"}},
		{recs: []string{"f"}}, {recs: []string{"r"}, check: true}, {recs: []string{"s", "t"}, check: true}, {recs: []string{"g"}}}
	for n := 1; ; n++ {
		fell := false
		for keep := range 5 {
			for _, torn := range []int{-1, 0, 1, 5, 6, 7, 9, 13} {
				d := fresh()
				l, _, _ := open(t, d, 16)
				d.Plan([]disk.Event{{At: d.Calls() + n, Kind: disk.Crashed, Keep: keep, Torn: torn}})
				done := run(l, acts)
				fell = fell || done < len(acts)
				d.Plan(nil)
				d.Crash(keep, torn)
				d.Reboot()
				fallen(t, d, acts, done)
			}
		}
		if !fell {
			return
		}
	}
}

func fallen(t *testing.T, d *disk.Disk, acts []act, done int) {
	t.Helper()
	_, c, r := open(t, d, 16)
	_, c2, r2 := open(t, d, 16)
	if !slices.Equal(c, c2) || !slices.Equal(r, r2) {
		t.Fatalf("P10.5: opened once more: %q, %q; %q, %q", c, r, c2, r2)
	}
	checked, appended := after(acts[:done])
	if slices.Equal(c, checked) && slices.Equal(r, appended) {
		return
	}
	if done == len(acts) {
		t.Fatalf("P10.5: all was OK: %q, %q", c, r)
	}
	next := acts[done]
	if !next.check && slices.Equal(c, checked) && slices.Equal(r, append(slices.Clone(appended), next.recs[0])) {
		return
	}
	// While a Check takes segments away, some of those that it stands for may still be there.
	if next.check && slices.Equal(c, next.recs) && len(r) <= len(appended) && slices.Equal(r, appended[len(appended)-len(r):]) {
		return
	}
	t.Fatalf("P10.5: behind %d acts: %q, %q", done, c, r)
}

func TestNewMemory(t *testing.T) {
	d := fresh()
	l, _, _ := open(t, d, 64)
	in := []byte("a")
	l.Append(in)
	in[0] = '?'
	list := recs("p", "q")
	l.Check(list)
	list[0][0] = '?'
	l.Append([]byte("b"))
	l.Append([]byte("c"))
	_, x, y, _ := wal.Open(d, 64)
	x[0][0], y[0][0] = '?', '?'
	_ = append(x[0], '?')
	_ = append(y[0], '?', '?')
	if string(x[1]) != "q" || string(y[1]) != "c" {
		t.Errorf("P10.4: %q, %q", x, y)
	}
	opens(t, "P10.4: answers share memory", d, []string{"p", "q"}, []string{"b", "c"})
}
