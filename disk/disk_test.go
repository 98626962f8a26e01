package disk_test

import (
	"bytes"
	"maps"
	"math"
	"math/rand"
	"slices"
	"strings"
	"testing"

	"handbill/api"
	"handbill/disk"
)

func fresh(t *testing.T, room int) *disk.Disk {
	t.Helper()
	d, e := disk.New(room)
	if e != api.OK || d == nil {
		t.Fatalf("P8.1: New(%d): %d", room, e)
	}
	return d
}

func want(t *testing.T, what string, got, e api.Errno) {
	t.Helper()
	if got != e {
		t.Errorf("%s: %d, not %d", what, got, e)
	}
}

// files tells all files by what does not count as a call.
func files(d *disk.Disk) map[string]string {
	m := map[string]string{}
	for name := range d.Names() {
		b, ok := d.Peek(name)
		if ok {
			m[name] = string(b)
		}
	}
	return m
}

func holds(t *testing.T, what string, d *disk.Disk, want map[string]string) {
	t.Helper()
	used := 0
	for _, s := range want {
		used += len(s)
	}
	if got := files(d); !maps.Equal(got, want) || d.Used() != used {
		t.Errorf("%s: %q of %d bytes, not %q", what, got, d.Used(), want)
	}
}

func TestNewAndResize(t *testing.T) {
	for _, room := range []int{0, 1, 1 << 30} {
		d := fresh(t, room)
		if !d.Up() || d.Calls() != 0 || d.Used() != 0 || len(files(d)) != 0 {
			t.Errorf("P8.1: New(%d)", room)
		}
		if !d.Resize(0) || !d.Resize(1<<30) {
			t.Error("P8.1: Resize")
		}
	}
	for _, room := range []int{-1, 1<<30 + 1, math.MaxInt, math.MinInt} {
		if d, e := disk.New(room); d != nil || e != api.ErrRange {
			t.Errorf("P8.1: New(%d): %d", room, e)
		}
		d := fresh(t, 2)
		if d.Resize(room) {
			t.Errorf("P8.1: Resize(%d)", room)
		}
		want(t, "P8.1: behind a Resize that did nothing", d.Append("a", []byte("xyz")), api.ErrFull)
	}
}

func TestCallsOfTheirOwn(t *testing.T) {
	d := fresh(t, 100)
	_, e := d.Read("a")
	want(t, "P8.2: Read of none", e, api.ErrNone)
	want(t, "P8.2: Cut of none", d.Cut("a", 0), api.ErrNone)
	want(t, "P8.2: Cut of none, wrong", d.Cut("a", -1), api.ErrNone)
	want(t, "P8.2: Rename of none", d.Rename("a", "b"), api.ErrNone)
	want(t, "P8.2: Rename of none to itself", d.Rename("a", "a"), api.ErrNone)
	want(t, "P8.2: Delete of none", d.Delete("a"), api.ErrNone)
	want(t, "P8.2: Append", d.Append("b", []byte("xyz")), api.OK)
	want(t, "P8.2: Append", d.Append("b", []byte("12")), api.OK)
	want(t, "P8.2: Append of nothing", d.Append("a", nil), api.OK)
	holds(t, "P8.2: Append", d, map[string]string{"a": "", "b": "xyz12"})
	b, e := d.Read("b")
	if string(b) != "xyz12" || e != api.OK {
		t.Errorf("P8.2: Read: %q, %d", b, e)
	}
	b, e = d.Read("a")
	if len(b) != 0 || e != api.OK {
		t.Errorf("P8.2: Read of an empty one: %q, %d", b, e)
	}
	for _, n := range []int{-1, 6, math.MaxInt, math.MinInt} {
		want(t, "P8.2: Cut", d.Cut("b", n), api.ErrRange)
	}
	want(t, "P8.2: Cut", d.Cut("b", 5), api.OK)
	want(t, "P8.2: Cut", d.Cut("b", 2), api.OK)
	want(t, "P8.2: Append behind Cut", d.Append("b", []byte("!")), api.OK)
	holds(t, "P8.2: Cut", d, map[string]string{"a": "", "b": "xy!"})
	want(t, "P8.2: Rename", d.Rename("b", "b"), api.OK)
	want(t, "P8.2: Rename", d.Rename("b", "a"), api.OK)
	holds(t, "P8.2: Rename onto another one", d, map[string]string{"a": "xy!"})
	want(t, "P8.2: Append", d.Append("c.new", []byte("c")), api.OK)
	l, e := d.List()
	if !slices.Equal(l, []string{"a", "c.new"}) || e != api.OK {
		t.Errorf("P8.2: List: %q, %d", l, e)
	}
	want(t, "P8.2: Delete", d.Delete("a"), api.OK)
	want(t, "P8.2: Sync", d.Sync(), api.OK)
	holds(t, "P8.2: Delete", d, map[string]string{"c.new": "c"})
	if d.Calls() != 24 {
		t.Errorf("P8.4: %d calls", d.Calls())
	}
}

func TestNames(t *testing.T) {
	d := fresh(t, 100)
	long := strings.Repeat("a", 40)
	for _, name := range []string{"a", "z", "0", "9", ".", "-", long, "w000001", "c.new", "..", "-.-"} {
		want(t, "P8.2: the name "+name, d.Append(name, []byte("x")), api.OK)
	}
	for _, name := range []string{"", long + "a", "A", "a b", "a/b", "é", "a\x00", "_", "`", "{", ",", ":", "\xff"} {
		_, e := d.Read(name)
		want(t, "P8.2: Read of "+name, e, api.ErrName)
		want(t, "P8.2: Append to "+name, d.Append(name, nil), api.ErrName)
		want(t, "P8.2: Cut of "+name, d.Cut(name, 0), api.ErrName)
		want(t, "P8.2: Rename of "+name, d.Rename(name, "a"), api.ErrName)
		want(t, "P8.2: Rename to "+name, d.Rename("a", name), api.ErrName)
		want(t, "P8.2: Rename of none to "+name, d.Rename("none", name), api.ErrName)
		want(t, "P8.2: Delete of "+name, d.Delete(name), api.ErrName)
		if b, ok := d.Peek(name); ok || len(b) > 0 {
			t.Errorf("P8.4: Peek of %q", name)
		}
	}
	l, _ := d.List()
	if !slices.IsSorted(l) || len(l) != 11 || !slices.Equal(slices.Collect(d.Names()), l) {
		t.Errorf("P8.2, P8.4: %q", l)
	}
	for name := range d.Names() {
		if name != "-" {
			t.Errorf("P8.4: the first name: %q", name)
		}
		break
	}
}

func TestRoom(t *testing.T) {
	d := fresh(t, 5)
	want(t, "P8.2: Append", d.Append("a", []byte("123")), api.OK)
	want(t, "P8.2: Append above the room", d.Append("b", []byte("123")), api.ErrFull)
	holds(t, "P8.2: an Append that answers an error does nothing", d, map[string]string{"a": "123"})
	want(t, "P8.2: Append up to the room", d.Append("b", []byte("12")), api.OK)
	want(t, "P8.2: Append of nothing", d.Append("c", nil), api.OK)
	want(t, "P8.2: Append of a name that is none", d.Append("C", []byte("123456")), api.ErrName)
	if !d.Resize(1) {
		t.Error("P8.1: Resize below what is used")
	}
	holds(t, "P8.1: what is there stays", d, map[string]string{"a": "123", "b": "12", "c": ""})
	want(t, "P8.2: Append above the room", d.Append("c", []byte("1")), api.ErrFull)
	want(t, "P8.2: Cut", d.Cut("a", 0), api.OK)
	want(t, "P8.2: Delete", d.Delete("b"), api.OK)
	want(t, "P8.2: Append to what is free", d.Append("c", []byte("1")), api.OK)
	want(t, "P8.2: Rename onto one", d.Rename("a", "c"), api.OK)
	if d.Used() != 0 {
		t.Errorf("P8.4: Used: %d", d.Used())
	}
	want(t, "P8.2: Sync", d.Sync(), api.OK)
	d.Crash(0, -1)
	if d.Used() != 0 {
		t.Errorf("P8.4: Used: %d", d.Used())
	}
}

func TestResize(t *testing.T) {
	d := fresh(t, 3)
	want(t, "P8.2: Append", d.Append("a", []byte("123")), api.OK)
	want(t, "P8.2: Append above the room", d.Append("a", []byte("4")), api.ErrFull)
	d.Resize(5)
	want(t, "P8.1: Append to a greater room", d.Append("a", []byte("45")), api.OK)
	want(t, "P8.1: Append above the greater room", d.Append("a", []byte("6")), api.ErrFull)
	want(t, "P8.2: Cut", d.Cut("a", 1), api.OK)
	d.Resize(2)
	want(t, "P8.1: Append above a smaller room", d.Append("a", []byte("45")), api.ErrFull)
	want(t, "P8.1: Append to a smaller room", d.Append("a", []byte("4")), api.OK)
}

// TestCopyOfPending lets a disk and its copy go on with several changes pending.
func TestCopyOfPending(t *testing.T) {
	for n := range 9 {
		d := fresh(t, 100)
		text := ""
		for i := range n {
			text += string(rune('0' + i))
			d.Append("a", []byte(text[i:]))
		}
		c := d.Copy()
		d.Append("a", []byte("d"))
		c.Append("a", []byte("c"))
		d.Append("a", []byte("D"))
		d.Crash(n+2, -1)
		c.Crash(n+1, -1)
		holds(t, "P8.4: the disk", d, map[string]string{"a": text + "dD"})
		holds(t, "P8.4: the copy", c, map[string]string{"a": text + "c"})
	}
}

func TestDown(t *testing.T) {
	d := fresh(t, 100)
	d.Append("a", []byte("x"))
	d.Sync()
	d.Crash(0, 0)
	if d.Up() {
		t.Error("P8.3: it is Up behind a crash")
	}
	_, e := d.Read("a")
	want(t, "P8.2: Read", e, api.ErrDown)
	_, e = d.Read("A")
	want(t, "P8.2: Read of no name", e, api.ErrDown)
	_, e = d.List()
	want(t, "P8.2: List", e, api.ErrDown)
	want(t, "P8.2: Append", d.Append("a", bytes.Repeat([]byte("x"), 200)), api.ErrDown)
	want(t, "P8.2: Cut", d.Cut("b", 9), api.ErrDown)
	want(t, "P8.2: Rename", d.Rename("b", "B"), api.ErrDown)
	want(t, "P8.2: Delete", d.Delete(""), api.ErrDown)
	want(t, "P8.2: Sync", d.Sync(), api.ErrDown)
	if d.Calls() != 10 {
		t.Errorf("P8.2: a call that answers ErrDown counts: %d", d.Calls())
	}
	holds(t, "P8.4: while it is down", d, map[string]string{"a": "x"})
	if !d.Resize(50) {
		t.Error("P8.1: Resize while it is down")
	}
	d.Crash(1, 1)
	d.Reboot()
	d.Reboot()
	if !d.Up() {
		t.Error("P8.3: it is not Up behind Reboot")
	}
	b, e := d.Read("a")
	if string(b) != "x" || e != api.OK {
		t.Errorf("P8.3: behind Reboot: %q, %d", b, e)
	}
}

func TestCrash(t *testing.T) {
	make1 := func() *disk.Disk {
		d := fresh(t, 100)
		d.Append("a", []byte("1"))
		d.Append("b", []byte("2"))
		d.Sync()
		d.Append("a", []byte("xyz")) // 0
		d.Append("a", nil)           // does nothing
		d.Cut("a", 4)                // does nothing
		d.Rename("b", "b")           // does nothing
		d.Append("no", bytes.Repeat([]byte("x"), 100))
		d.Cut("a", 2)                 // 1
		d.Rename("a", "c")            // 2
		d.Append("d", nil)            // 3
		d.Delete("b")                 // 4
		d.Rename("c", "d")            // 5
		d.Append("d", []byte("qrst")) // 6
		d.Append("e", []byte("uv"))   // 7
		return d
	}
	for i, c := range []struct {
		keep, torn int
		want       map[string]string
	}{
		{0, -1, map[string]string{"a": "1", "b": "2"}}, {0, 0, map[string]string{"a": "1", "b": "2"}}, {0, 1, map[string]string{"a": "1x", "b": "2"}}, {0, 2, map[string]string{"a": "1xy", "b": "2"}},
		{0, 3, map[string]string{"a": "1", "b": "2"}}, {0, math.MaxInt, map[string]string{"a": "1", "b": "2"}}, {0, math.MinInt, map[string]string{"a": "1", "b": "2"}}, {-1, 1, map[string]string{"a": "1x", "b": "2"}},
		{math.MinInt, -1, map[string]string{"a": "1", "b": "2"}}, {1, 1, map[string]string{"a": "1xyz", "b": "2"}}, {1, -1, map[string]string{"a": "1xyz", "b": "2"}}, {2, 0, map[string]string{"a": "1x", "b": "2"}},
		{3, 0, map[string]string{"c": "1x", "b": "2"}}, {3, -1, map[string]string{"c": "1x", "b": "2"}}, {4, 0, map[string]string{"c": "1x", "b": "2", "d": ""}}, {5, 1, map[string]string{"c": "1x", "d": ""}},
		{6, -1, map[string]string{"d": "1x"}}, {6, 0, map[string]string{"d": "1x"}}, {6, 3, map[string]string{"d": "1xqrs"}}, {7, -1, map[string]string{"d": "1xqrst"}}, {7, 0, map[string]string{"d": "1xqrst", "e": ""}},
		{7, 1, map[string]string{"d": "1xqrst", "e": "u"}}, {8, 0, map[string]string{"d": "1xqrst", "e": "uv"}}, {9, 1, map[string]string{"d": "1xqrst", "e": "uv"}}, {math.MaxInt, 1, map[string]string{"d": "1xqrst", "e": "uv"}},
	} {
		d := make1()
		d.Crash(c.keep, c.torn)
		if d.Up() {
			t.Errorf("P8.3: case %d: it is Up", i)
		}
		holds(t, "P8.3, behind a crash", d, c.want)
		d.Crash(0, 0)
		d.Reboot()
		d.Crash(5, 5)
		d.Reboot()
		holds(t, "P8.3, that is durable", d, c.want)
	}
}

func TestPlan(t *testing.T) {
	d := fresh(t, 100)
	l := []disk.Event{{At: 2, Kind: disk.NoRoom}, {At: 4, Kind: disk.Crashed, Keep: 1, Torn: 2}, {At: 3, Kind: disk.NoRoom}, {At: 0, Kind: disk.Crashed}, {At: -5, Kind: disk.Crashed}, {At: 3, Kind: 9}}
	d.Plan(l)
	l[0].At = 1
	want(t, "P8.2: call 1", d.Append("a", []byte("1")), api.OK)
	want(t, "P8.2: call 2", d.Append("a", []byte("2")), api.ErrFull)
	_, e := d.Read("a")
	want(t, "P8.2: call 3, no Append", e, api.OK)
	d.Peek("a")
	want(t, "P8.2: call 4", d.Append("b", []byte("xyz")), api.ErrDown)
	holds(t, "P8.2: a crash ahead of the call", d, map[string]string{"a": "1"})
	d.Reboot()
	want(t, "P8.2: call 5", d.Append("b", []byte("xyz")), api.OK)

	d.Plan([]disk.Event{{At: 5, Kind: disk.Crashed}, {At: 7, Kind: disk.Crashed, Keep: 9}, {At: 7, Kind: disk.NoRoom}, {At: 8, Kind: disk.NoRoom}})
	want(t, "P8.1: events of calls that went ahead", d.Append("b", nil), api.OK)
	want(t, "P8.2: ErrDown ahead of ErrFull", d.Append("b", []byte("z")), api.ErrDown)
	d.Reboot()
	want(t, "P8.2: ErrName ahead of ErrFull", d.Append("B", []byte("z")), api.ErrName)
	want(t, "P8.2: behind the plan", d.Append("b", []byte("z")), api.OK)
	d.Plan([]disk.Event{{At: 10, Kind: disk.Crashed}})
	d.Plan(nil)
	want(t, "P8.1: another plan", d.Sync(), api.OK)
	d.Plan([]disk.Event{{At: 11, Kind: disk.Crashed, Keep: 1}, {At: 11, Kind: disk.Crashed, Keep: 9}})
	d.Append("c", nil)
	holds(t, "P8.2: the second crash of a call", d, map[string]string{"a": "1", "b": "xyzz"})
	d.Reboot()
	d.Append("a", []byte("2"))
	d.Append("a", []byte("3"))
	d.Plan([]disk.Event{{At: 14, Kind: disk.Crashed, Keep: 1}})
	want(t, "P8.2: a crash at Sync", d.Sync(), api.ErrDown)
	holds(t, "P8.2: a crash at Sync", d, map[string]string{"a": "12", "b": "xyzz"})
	if disk.Crashed != 1 || disk.NoRoom != 2 {
		t.Error("P8.1: the kinds of events")
	}
}

func TestPlanOfNoRoomForNothing(t *testing.T) {
	d := fresh(t, 9)
	d.Plan([]disk.Event{{At: 1, Kind: disk.NoRoom}, {At: 2, Kind: disk.NoRoom}})
	want(t, "P8.2: an Append of nothing", d.Append("a", nil), api.ErrFull)
	want(t, "P8.2: Delete", d.Delete("a"), api.ErrNone)
}

func TestCopy(t *testing.T) {
	d := fresh(t, 10)
	d.Append("a", []byte("12"))
	d.Sync()
	d.Append("a", []byte("34"))
	d.Plan([]disk.Event{{At: 5, Kind: disk.Crashed}})
	c := d.Copy()
	if c.Calls() != 3 || c.Used() != 4 || !c.Up() {
		t.Error("P8.4: a copy")
	}
	want(t, "P8.4: the copy's", c.Append("a", []byte("56")), api.OK)
	want(t, "P8.4: the copy has the plan", c.Append("a", []byte("7")), api.ErrDown)
	holds(t, "P8.4: the copy has what is pending", c, map[string]string{"a": "12"})
	if !d.Up() || d.Calls() != 3 {
		t.Error("P8.4: what the copy does is told by the disk")
	}
	c.Resize(1000)
	want(t, "P8.4: the disk has its room", d.Append("a", []byte("1234567")), api.ErrFull)
	holds(t, "P8.4: the disk has its own", d, map[string]string{"a": "1234"})
	d.Plan(nil)
	c = d.Copy()
	d.Append("b", []byte("d"))
	c.Append("b", []byte("c"))
	c.Crash(1, -1)
	d.Crash(2, -1)
	holds(t, "P8.4: the copy", c, map[string]string{"a": "1234"})
	holds(t, "P8.4: the disk", d, map[string]string{"a": "1234", "b": "d"})
	if c := d.Copy(); c.Up() {
		t.Error("P8.4: a copy of one that is down")
	}
}

func TestNewMemory(t *testing.T) {
	d := fresh(t, 100)
	in := []byte("abc")
	d.Append("a", in)
	d.Append("a", in[:2])
	copy(in, "???")
	_ = append(in[:1], '?')
	x, _ := d.Read("a")
	y, _ := d.Peek("a")
	copy(x, "??????")
	copy(y, "??????")
	_ = append(x[:2], '?')
	l, _ := d.List()
	l[0] = "?"
	holds(t, "P8.5: answers share memory", d, map[string]string{"a": "abcab"})
	d.Crash(1, 1)
	holds(t, "P8.5: what was handed in is kept", d, map[string]string{"a": "abca"})
}

// model does what a disk does, as files that are all told anew from what was durable and each change behind it.
type model struct {
	durable map[string]string
	pending []func(map[string]string)
	torn    []func(map[string]string, int)
}

func (m *model) files(keep, torn int) map[string]string {
	f := maps.Clone(m.durable)
	keep = min(max(keep, 0), len(m.pending))
	for _, do := range m.pending[:keep] {
		do(f)
	}
	if keep < len(m.pending) && m.torn[keep] != nil {
		m.torn[keep](f, torn)
	}
	return f
}

func (m *model) do(do func(map[string]string), torn func(map[string]string, int)) {
	m.pending = append(m.pending, do)
	m.torn = append(m.torn, torn)
}

func (m *model) settle(f map[string]string) { *m = model{durable: f} }

// TestModel does calls at random, and lets the disk fall.
func TestModel(t *testing.T) {
	r := rand.New(rand.NewSource(11))
	for range 300 {
		d, m := fresh(t, 40), &model{durable: map[string]string{}}
		for range 60 {
			now := m.files(len(m.pending), -1)
			step(t, r, d, m, now)
			holds(t, "P8.6", d, m.files(len(m.pending), -1))
			if t.Failed() {
				return
			}
		}
	}
}

func step(t *testing.T, r *rand.Rand, d *disk.Disk, m *model, now map[string]string) {
	name, other := string(rune('a'+r.Intn(3))), string(rune('a'+r.Intn(3)))
	s, there := now[name]
	switch r.Intn(9) {
	case 0, 1, 2:
		b := []byte(strings.Repeat(string(rune('0'+r.Intn(10))), r.Intn(5)))
		if d.Used()+len(b) > 40 {
			want(t, "P8.2: Append", d.Append(name, b), api.ErrFull)
			return
		}
		want(t, "P8.2: Append", d.Append(name, b), api.OK)
		if there && len(b) == 0 {
			return
		}
		text := string(b)
		m.do(func(f map[string]string) { f[name] += text }, func(f map[string]string, n int) {
			if n >= 0 && n < len(text) {
				f[name] += text[:n]
			}
		})
	case 3:
		n := r.Intn(6)
		switch e := d.Cut(name, n); {
		case !there:
			want(t, "P8.2: Cut", e, api.ErrNone)
		case n > len(s):
			want(t, "P8.2: Cut", e, api.ErrRange)
		case n < len(s):
			m.do(func(f map[string]string) { f[name] = f[name][:n] }, nil)
		}
	case 4:
		e := d.Rename(name, other)
		if !there {
			want(t, "P8.2: Rename", e, api.ErrNone)
		} else if name != other {
			m.do(func(f map[string]string) { f[other] = f[name]; delete(f, name) }, nil)
		}
	case 5:
		e := d.Delete(name)
		if !there {
			want(t, "P8.2: Delete", e, api.ErrNone)
		} else {
			m.do(func(f map[string]string) { delete(f, name) }, nil)
		}
	case 6:
		want(t, "P8.2: Sync", d.Sync(), api.OK)
		m.settle(now)
	case 7:
		if r.Intn(3) > 0 {
			return
		}
		keep, torn := r.Intn(len(m.pending)+3)-1, r.Intn(6)-1
		d.Crash(keep, torn)
		m.settle(m.files(keep, torn))
		d.Reboot()
	case 8:
		b, e := d.Read(name)
		if string(b) != s || (e == api.OK) != there {
			t.Errorf("P8.2: Read: %q, %d", b, e)
		}
	}
}
