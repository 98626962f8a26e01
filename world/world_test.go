package world_test

import (
	"bytes"
	"maps"
	"math"
	"math/rand"
	"reflect"
	"slices"
	"strconv"
	"strings"
	"testing"

	"handbill/api"
	"handbill/disk"
	"handbill/feed"
	"handbill/json"
	"handbill/keys"
	"handbill/view"
	"handbill/world"
)

func fresh(t *testing.T) *world.World {
	t.Helper()
	w, e := world.New(1<<20, 4096)
	if e != api.OK || w == nil || w.Server() == nil || w.Disk() == nil || len(w.Told()) > 0 {
		t.Fatalf("P26.1: New: %d", e)
	}
	return w
}

func ask(text string) world.Act { return world.Act{Kind: world.Ask, Bytes: []byte(text)} }

// does does an act, and holds what it answers, whether there is a server behind it, and what was told last.
func does(t *testing.T, what string, w *world.World, a world.Act, done, server bool, told ...world.Told) {
	t.Helper()
	before := w.Told()
	if got := w.Do(a); got != done || (w.Server() != nil) != server {
		t.Errorf("P26.1: %s: %v; a server: %v", what, got, w.Server() != nil)
	}
	all := w.Told()
	if len(all) != len(before)+len(told) || !slices.EqualFunc(all[len(before):], told, same) {
		t.Errorf("P26.1: %s: told %v, not %v", what, all[len(before):], told)
	}
}

func same(a, b world.Told) bool {
	return a.Act == b.Act && bytes.Equal(a.Bytes, b.Bytes) && a.N == b.N && a.Err == b.Err
}

func TestNew(t *testing.T) {
	for _, c := range []struct {
		room, segment int
		want          api.Errno
	}{{-1, 16, api.ErrRange}, {1<<30 + 1, 16, api.ErrRange}, {100, 15, api.ErrRange}, {100, 1<<20 + 1, api.ErrRange}, {100, 0, api.ErrRange}, {100, math.MinInt, api.ErrRange}, {100, math.MaxInt, api.ErrRange}, {-1, 0, api.ErrRange}} {
		if w, e := world.New(c.room, c.segment); w != nil || e != c.want {
			t.Errorf("P26.1: New(%d, %d): %d", c.room, c.segment, e)
		}
	}
	for _, segment := range []int{16, 1 << 20} {
		if w, e := world.New(1<<30, segment); e != api.OK || w.Server() == nil {
			t.Errorf("P26.1: a segment of %d: %d", segment, e)
		}
	}
	w, e := world.New(3, 16)
	if e != api.OK || w == nil || w.Server() != nil || !w.Disk().Up() {
		t.Fatalf("P26.1: without room: %d", e)
	}
	does(t, "Ask without server", w, ask(`{"op":"begin","user":"u"}`), false, false)
	does(t, "Start without room", w, world.Act{Kind: world.Start}, true, false, world.Told{Act: 1, Err: api.ErrFull})
	does(t, "Room", w, world.Act{Kind: world.Room, A: 1000}, true, false)
	does(t, "Start", w, world.Act{Kind: world.Start}, true, true, world.Told{Act: 3})
	if world.Ask != 1 || world.Ingest != 2 || world.Prune != 3 || world.Check != 4 || world.Fall != 5 || world.Start != 6 || world.Plan != 7 || world.Room != 8 {
		t.Error("P26.1: the kinds")
	}
}

func TestDo(t *testing.T) {
	w := fresh(t)
	does(t, "Ask", w, ask(`{"op":"begin","user":"u"}`), true, true, world.Told{Act: 0, Bytes: []byte(`{"ok":true,"tx":1048577}`)})
	does(t, "Ask of nothing", w, world.Act{Kind: world.Ask}, true, true, world.Told{Act: 1, Bytes: []byte(`{"error":2,"ok":false}`)})
	does(t, "Ingest", w, world.Act{Kind: world.Ingest, Name: "f", Bytes: world.Doc(2, 0)}, true, true, world.Told{Act: 2, N: 3})
	does(t, "Ingest of no name", w, world.Act{Kind: world.Ingest, Name: "F", Bytes: world.Doc(2, 0)}, true, true, world.Told{Act: 3, Err: api.ErrName})
	does(t, "Ingest, its title once more", w, world.Act{Kind: world.Ingest, Name: "f", Bytes: world.Doc(2, 0)}, true, true, world.Told{Act: 4})
	does(t, "Prune", w, world.Act{Kind: world.Prune}, true, true, world.Told{Act: 5})
	does(t, "abort", w, ask(`{"op":"abort","tx":1048577}`), true, true, world.Told{Act: 6, Bytes: []byte(`{"ok":true}`)})
	does(t, "Prune", w, world.Act{Kind: world.Prune}, true, true, world.Told{Act: 7, N: 1})
	does(t, "Check", w, world.Act{Kind: world.Check}, true, true, world.Told{Act: 8})
	does(t, "Start with a server", w, world.Act{Kind: world.Start}, false, true)
	for _, kind := range []int{0, 9, -1, math.MaxInt, math.MinInt} {
		does(t, "another kind", w, world.Act{Kind: kind}, false, true)
	}
	does(t, "Fall", w, world.Act{Kind: world.Fall}, true, false)
	if w.Disk().Up() {
		t.Error("P26.1: Fall leaves the disk up")
	}
	for kind := world.Ask; kind <= world.Fall; kind++ {
		does(t, "without server", w, world.Act{Kind: kind, Name: "f", Bytes: world.Doc(0, 0)}, false, false)
	}
	does(t, "Plan without server", w, world.Act{Kind: world.Plan}, true, false)
	does(t, "Start", w, world.Act{Kind: world.Start}, true, true, world.Told{Act: 22})
	if w.Server().Boot() != 2 {
		t.Errorf("P26.1: boot %d", w.Server().Boot())
	}
	for room, done := range map[int]bool{-1: false, 1<<30 + 1: false, 1 << 20: true, 0: true} {
		if w.Do(world.Act{Kind: world.Room, A: room}) != done {
			t.Errorf("P26.1: Room %d", room)
		}
	}
}

func TestFall(t *testing.T) {
	w := fresh(t)
	w.Do(world.Act{Kind: world.Plan, Events: []disk.Event{{At: 2, Kind: disk.Crashed, Keep: 1}}})
	does(t, "a crash at Sync", w, world.Act{Kind: world.Ingest, Name: "f", Bytes: world.Doc(0, 0)}, true, false, world.Told{Act: 1, Err: api.ErrDown})
	does(t, "Start", w, world.Act{Kind: world.Start}, true, true, world.Told{Act: 2})
	does(t, "what was kept", w, world.Act{Kind: world.Ingest, Name: "f", Bytes: world.Doc(0, 0)}, true, true, world.Told{Act: 3})
	// The same with a crash that keeps nothing, while the server starts, and one that has no room.
	w = fresh(t)
	w.Do(world.Act{Kind: world.Plan, Events: []disk.Event{{At: 2, Kind: disk.Crashed}, {At: 6, Kind: disk.Crashed}, {At: math.MaxInt, Kind: disk.Crashed}, {At: math.MinInt, Kind: disk.Crashed}, {At: 0, Kind: disk.Crashed}}})
	does(t, "a crash at Sync", w, world.Act{Kind: world.Ingest, Name: "f", Bytes: world.Doc(0, 0)}, true, false, world.Told{Act: 1, Err: api.ErrDown})
	does(t, "Start, and a crash", w, world.Act{Kind: world.Start}, true, false, world.Told{Act: 2, Err: api.ErrDown})
	does(t, "Start", w, world.Act{Kind: world.Start}, true, true, world.Told{Act: 3})
	does(t, "what was not kept", w, world.Act{Kind: world.Ingest, Name: "f", Bytes: world.Doc(0, 0)}, true, true, world.Told{Act: 4, N: 1})
	events := []disk.Event{{At: 1, Kind: disk.NoRoom}}
	w.Do(world.Act{Kind: world.Plan, Events: events})
	if events[0].At != 1 {
		t.Error("P26.4: what is handed in is changed")
	}
	events[0].Kind = disk.Crashed
	does(t, "no room", w, world.Act{Kind: world.Ingest, Name: "g", Bytes: world.Doc(0, 0)}, true, true, world.Told{Act: 6, Err: api.ErrFull})
	w.Do(world.Act{Kind: world.Room, A: 10})
	does(t, "Check without room", w, world.Act{Kind: world.Check}, true, true, world.Told{Act: 8, Err: api.ErrFull})
	w.Do(world.Act{Kind: world.Room, A: 1 << 20})
	// A commit that is pending may fall with what Fall keeps.
	w.Do(ask(`{"op":"begin","user":"u"}`))
	does(t, "Fall", w, world.Act{Kind: world.Fall, A: math.MaxInt, B: math.MinInt}, true, false)
	does(t, "Fall once more", w, world.Act{Kind: world.Fall}, false, false)
	w.Disk().Reboot()
	does(t, "Start", w, world.Act{Kind: world.Start}, true, true, world.Told{Act: 13})
	does(t, "an older transaction", w, ask(`{"op":"commit","tx":1048577}`), true, true, world.Told{Act: 14, Bytes: []byte(`{"error":13,"ok":false}`)})
}

func TestRun(t *testing.T) {
	w := fresh(t)
	var l []world.Act
	for i := range 600 {
		l = append(l, world.Act{Kind: world.Prune + i%2*90})
	}
	if n := w.Run(l); n != 250 || len(w.Told()) != 250 || w.Told()[249].Act != 498 {
		t.Errorf("P26.2: Run: %d, %d told", n, len(w.Told()))
	}
	does(t, "behind Run", w, world.Act{Kind: world.Check}, true, true, world.Told{Act: 500})
	if n := w.Run(nil); n != 0 {
		t.Errorf("P26.2: Run of nothing: %d", n)
	}
}

func TestDoc(t *testing.T) {
	const item = `<item><guid>g%</guid><title>i</title><link>l</link><pubDate>01 Jan 1970 00:00:# GMT</pubDate></item>`
	for _, c := range []struct {
		x, y  int
		items [][2]string
	}{
		{0, 0, [][2]string{{"0", "00"}}}, {1, 4, [][2]string{{"4", "40"}, {"5", "50"}}}, {2, 5, [][2]string{{"5", "50"}, {"6", "00"}, {"7", "10"}}}, {5, 8, [][2]string{{"8", "20"}, {"0", "30"}, {"1", "40"}}}, {3, 17, [][2]string{{"8", "50"}}}, {-1, -1, [][2]string{{"0", "00"}}},
		{math.MinInt, math.MinInt, [][2]string{{"0", "00"}}}, {math.MaxInt - 1, math.MaxInt, [][2]string{{strconv.Itoa(math.MaxInt % 9), "10"}}},
	} {
		want := ""
		for _, i := range c.items {
			want += strings.ReplaceAll(strings.ReplaceAll(item, "%", i[0]), "#", i[1])
		}
		got := string(world.Doc(c.x, c.y))
		if c.x > 100 {
			// Of the greatest numbers only the first item is held: its place in the row is 0.
			got = got[:strings.Index(got, "</item>")+len("</item>")] + "</channel></rss>"
		}
		if got != `<rss><channel><title>t</title>`+want+`</channel></rss>` {
			t.Errorf("P26.3: Doc(%d, %d): %s", c.x, c.y, got)
		}
	}
	for x := range 4 {
		for y := range 20 {
			f, e := feed.Parse(world.Doc(x, y))
			if e != api.OK || f.Title != "t" || len(f.Entries) != 1+x%3 || f.Entries[x%3].GUID != "g"+strconv.Itoa((y+x%3)%9) || f.Entries[x%3].When != 10*((y+x%3)%6) {
				t.Errorf("P26.3: Doc(%d, %d): %v, %d", x, y, f, e)
			}
		}
	}
	if n := len(world.Doc(math.MaxInt, math.MaxInt)); n < 100 {
		t.Errorf("P26.3: %d bytes", n)
	}
}

func TestActs(t *testing.T) {
	event := func(x disk.Event) world.Act { return world.Act{Kind: world.Plan, Events: []disk.Event{x}} }
	for _, c := range []struct {
		b    [4]byte
		want world.Act
	}{
		{[4]byte{0, 0, 9, 9}, ask(`{"op":"begin","user":"u"}`)}, {[4]byte{16, 255, 0, 0}, ask(`{"op":"begin","user":"v"}`)}, {[4]byte{1, 0, 9, 9}, ask(`{"op":"commit","tx":1048577}`)}, {[4]byte{1, 7, 9, 9}, ask(`{"op":"commit","tx":1048580}`)},
		{[4]byte{1, 199, 9, 9}, ask(`{"op":"commit","tx":1048580}`)}, {[4]byte{1, 200, 9, 9}, ask(`{"op":"commit","tx":2097153}`)}, {[4]byte{2, 1, 0, 16}, ask(`{"op":"abort","tx":1048578}`)}, {[4]byte{2, 1, 0, 17}, ask(`{"op":"subs","tx":1048578}`)},
		{[4]byte{3, 0, 0, 0}, ask(`{"feed":"f","name":"","op":"subscribe","tx":1048577}`)}, {[4]byte{3, 0, 1, 1}, ask(`{"feed":"g","name":"d","op":"subscribe","tx":1048577}`)}, {[4]byte{4, 2, 1, 1}, ask(`{"name":"d","op":"folder","tx":1048579}`)},
		{[4]byte{5, 0, 0, 127}, ask(`{"entry":2,"feed":"f","on":false,"op":"read","tx":1048577}`)}, {[4]byte{5, 0, 3, 128}, ask(`{"entry":3,"feed":"g","on":true,"op":"read","tx":1048577}`)}, {[4]byte{6, 203, 2, 255}, ask(`{"entry":0,"feed":"f","on":true,"op":"star","tx":2097156}`)},
		{[4]byte{6, 0, 2, 127}, ask(`{"entry":2,"feed":"f","on":false,"op":"star","tx":1048577}`)}, {[4]byte{6, 0, 2, 128}, ask(`{"entry":3,"feed":"f","on":true,"op":"star","tx":1048577}`)}, {[4]byte{7, 0, 1, 61}, ask(`{"before":1,"feed":"g","op":"mark","tx":1048577}`)}, {[4]byte{8, 0, 0, 0}, ask(`{"after":-1,"feed":"f","limit":2,"op":"list","tx":1048577}`)}, {[4]byte{8, 0, 1, 7}, ask(`{"after":2,"feed":"g","limit":2,"op":"list","tx":1048577}`)},
		{[4]byte{9, 0, 1, 7}, ask(`{"feed":"g","op":"unread","tx":1048577}`)}, {[4]byte{10, 0, 1, 9}, ask(`{"limit":5,"op":"sync","token":"","user":"u"}`)}, {[4]byte{10, 1, 0, 5}, ask(`{"limit":1,"op":"sync","token":"","user":"v"}`)},
		{[4]byte{11, 4, 2, 7}, world.Act{Kind: world.Ingest, Name: "f", Bytes: world.Doc(4, 7)}}, {[4]byte{12, 255, 255, 255}, world.Act{Kind: world.Ingest, Name: "g", Bytes: world.Doc(255, 255)}}, {[4]byte{13, 1, 1, 2}, world.Act{Kind: world.Prune}}, {[4]byte{13, 1, 1, 3}, world.Act{Kind: world.Check}},
		{[4]byte{14, 10, 7, 0}, event(disk.Event{At: 2, Kind: disk.Crashed, Keep: 3, Torn: -1})}, {[4]byte{14, 8, 127, 199}, event(disk.Event{At: 9, Kind: disk.Crashed, Keep: 3})}, {[4]byte{14, 9, 128, 8}, event(disk.Event{At: 1, Kind: disk.NoRoom, Torn: 7})},
		{[4]byte{14, 7, 255, 200}, world.Act{Kind: world.Fall, A: 3, B: 1}}, {[4]byte{14, 4, 0, 207}, world.Act{Kind: world.Fall, B: -1}}, {[4]byte{15, 1, 1, 1}, world.Act{Kind: world.Start}}, {[4]byte{255, 1, 1, 1}, world.Act{Kind: world.Start}},
	} {
		l := world.Acts(append(c.b[:], 1, 2, 3))
		if len(l) != 1 || !reflect.DeepEqual(plain(l[0]), plain(c.want)) {
			t.Errorf("P26.3: Acts(%v): %+v, not %+v", c.b, l, c.want)
		}
	}
	for n, want := range map[int]int{0: 0, 3: 0, 4: 1, 7: 1, 8: 2, 1999: 499, 2000: 500, 2004: 500, 5000: 500} {
		if got := len(world.Acts(make([]byte, n))); got != want {
			t.Errorf("P26.3: %d acts of %d bytes, not %d", got, n, want)
		}
	}
	b := []byte{11, 0, 0, 0, 14, 0, 0, 0}
	x, y := world.Acts(b), world.Acts(b)
	x[0].Bytes[0], x[1].Events[0].At = '?', 77
	_ = append(x[:1], world.Act{})
	if !bytes.Equal(y[0].Bytes, world.Doc(0, 0)) || y[1].Events[0].At != 1 || !bytes.Equal(b, []byte{11, 0, 0, 0, 14, 0, 0, 0}) {
		t.Error("P26.4: answers share memory")
	}
}

// plain tells an act whose empty lists are nil.
func plain(a world.Act) world.Act {
	if len(a.Bytes) == 0 {
		a.Bytes = nil
	}
	if len(a.Events) == 0 {
		a.Events = nil
	}
	return a
}

func TestToldMemory(t *testing.T) {
	w := fresh(t)
	b := []byte(`{"op":"begin","user":"u"}`)
	w.Do(world.Act{Kind: world.Ask, Bytes: b})
	clear(b)
	x, y := w.Told(), w.Told()
	clear(x[0].Bytes[:cap(x[0].Bytes)])
	x[0].Act = 9
	_ = append(x[:1], world.Told{Act: 9})
	if y[0].Act != 0 || string(y[0].Bytes) != `{"ok":true,"tx":1048577}` || !same(y[0], w.Told()[0]) {
		t.Error("P26.4: answers share memory")
	}
}

// script tells bytes of a script in which much happens: most transactions are those that are open.
func script(r *rand.Rand) []byte {
	b := make([]byte, 4*(50+r.Intn(350)))
	r.Read(b)
	for i := 0; i < len(b); i += 4 {
		if b[i]%16 == 14 && r.Intn(3) > 0 {
			b[i] = byte(r.Intn(12))
		}
		if r.Intn(2) == 0 {
			b[i+1] = byte(r.Intn(4))
		}
	}
	return b
}

// TestWorlds runs scripts at random, and holds what every world holds.
func TestWorlds(t *testing.T) {
	r := rand.New(rand.NewSource(27))
	for range 250 {
		b := script(r)
		segment := []int{16, 64, 4096}[r.Intn(3)]
		w, _ := world.New(1<<20, segment)
		last, boots := 0, 1
		for i, a := range world.Acts(b) {
			told := len(w.Told())
			open := 0
			if w.Server() != nil {
				open = len(w.Server().Open())
			}
			done := w.Do(a)
			all := w.Told()
			if w.Server() != nil && !w.Disk().Up() || !done && len(all) != told || len(all) > told+1 {
				t.Fatalf("P26.1: act %d: %v", i, done)
			}
			if len(all) == told {
				continue
			}
			x := all[told]
			if x.Act != i {
				t.Fatalf("P26.2: act %d is told as %d", i, x.Act)
			}
			if a.Kind == world.Start && x.Err == api.OK {
				if w.Server().Base().Now() <= last || w.Server().Boot() <= boots || len(w.Server().Open()) > 0 {
					t.Fatalf("P25.6: act %d: Now %d behind %d, boot %d behind %d", i, w.Server().Base().Now(), last, w.Server().Boot(), boots)
				}
				boots = w.Server().Boot()
			}
			v, _ := json.Parse(x.Bytes)
			if at, ok := json.Get(v, "at"); ok && bytes.Contains(a.Bytes, []byte(`"commit"`)) {
				last = max(last, at.N)
				if w.Server().Base().Now() < last || len(w.Server().Open()) != open-1 {
					t.Fatalf("P25.2: act %d: at %d, Now %d", i, at.N, w.Server().Base().Now())
				}
			}
		}
		again, _ := world.New(1<<20, segment)
		again.Run(world.Acts(b))
		if !slices.EqualFunc(w.Told(), again.Told(), same) {
			t.Fatal("P0.5: a script is told otherwise the second time")
		}
		ended(t, w)
	}
}

// ended holds what is there at the end: clients that begin anew come to the view, once more behind another start.
func ended(t *testing.T, w *world.World) {
	t.Helper()
	w.Disk().Plan(nil)
	w.Do(world.Act{Kind: world.Start})
	if w.Server() == nil {
		t.Fatal("P25.6: no server at the end")
	}
	for _, user := range []string{"u", "v"} {
		want := maps.Collect(view.Of(w.Server().Base().Begin(), user).All())
		if got := synced(t, w, user); !maps.Equal(got, want) {
			t.Fatalf("P25.7: %s has %v, not %v", user, got, want)
		}
		w.Do(world.Act{Kind: world.Fall, A: 9})
		w.Do(world.Act{Kind: world.Start})
		if got := synced(t, w, user); !maps.Equal(got, want) {
			t.Fatalf("P25.6: %s has %v, not %v", user, got, want)
		}
	}
	guids := map[string]int{}
	entries := 0
	for key := range w.Server().Base().Begin().Scan("", "") {
		p, ok := keys.Parse(key)
		if !ok && key != "boot" {
			t.Fatalf("P14.2: a row of the key %s", key)
		}
		switch p.Kind {
		case keys.KGuid:
			guids[p.Feed+"/"+p.GUID]++
		case keys.KEntry:
			entries++
		}
	}
	if entries != len(guids) {
		t.Fatalf("P16.4: %d entries of %d GUIDs", entries, len(guids))
	}
}

func synced(t *testing.T, w *world.World, user string) map[string]string {
	t.Helper()
	has, tok, more := map[string]string{}, "", true
	for more {
		w.Do(ask(`{"op":"sync","user":"` + user + `","token":"` + tok + `","limit":3}`))
		all := w.Told()
		v, _ := json.Parse(all[len(all)-1].Bytes)
		changes, ok := json.Get(v, "changes")
		if !ok {
			t.Fatalf("P25.7: %s", all[len(all)-1].Bytes)
		}
		for _, x := range changes.L {
			key, _ := json.Get(x, "key")
			value, _ := json.Get(x, "value")
			has[key.S] = value.S
		}
		next, _ := json.Get(v, "next")
		on, _ := json.Get(v, "more")
		tok, more = next.S, on.Kind == json.True
	}
	return has
}
