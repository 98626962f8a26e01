package txn_test

import (
	"iter"
	"maps"
	"math/rand"
	"slices"
	"strconv"
	"strings"
	"testing"

	"handbill/api"
	"handbill/txn"
	"handbill/vers"
)

func want(t *testing.T, what string, got, e api.Errno) {
	t.Helper()
	if got != e {
		t.Errorf("%s: %d, not %d", what, got, e)
	}
}

func row(s iter.Seq2[string, string]) string {
	var b strings.Builder
	for k, v := range s {
		b.WriteString(k + "=" + v + " ")
	}
	return b.String()
}

// store has a, c, e at 1, c changed at 5, e gone at 6, g at 7.
func store() *vers.Store[string] {
	s := vers.New[string]()
	s.Put(1, "a", "1")
	s.Put(1, "c", "1")
	s.Put(1, "e", "1")
	s.Put(5, "c", "5")
	s.Kill(6, "e")
	s.Put(7, "g", "7")
	return s
}

func TestBegin(t *testing.T) {
	s := store()
	for _, at := range []int{0, 1, 5, 9, -3} {
		x := txn.Begin(s, at)
		if x.At() != at || len(x.Writes()) > 0 || x.Clash() {
			t.Errorf("P12.1: Begin at %d: %d", at, x.At())
		}
	}
	if got := row(txn.Begin(s, 5).Scan("", "")); got != "a=1 c=5 e=1 " {
		t.Errorf("P12.1: at 5: %s", got)
	}
	if got := row(txn.Begin(s, 7).Scan("", "")); got != "a=1 c=5 g=7 " {
		t.Errorf("P12.1: at 7: %s", got)
	}
	if got := row(txn.Begin(s, 0).Scan("", "")); got != "" {
		t.Errorf("P12.1: at 0: %s", got)
	}
}

func TestWrites(t *testing.T) {
	x := txn.Begin(store(), 5)
	long, value := strings.Repeat("k", api.MaxKey), strings.Repeat("v", api.MaxValue)
	want(t, "P12.2: Put of no key", x.Put("", "v"), api.ErrLong)
	want(t, "P12.2: Put of a long key", x.Put(long+"k", "v"), api.ErrLong)
	want(t, "P12.2: Put of a long value", x.Put("k", value+"v"), api.ErrLong)
	want(t, "P12.2: Delete of no key", x.Delete(""), api.ErrLong)
	want(t, "P12.2: Delete of a long key", x.Delete(long+"k"), api.ErrLong)
	if len(x.Writes()) > 0 {
		t.Error("P0.2: what answered an error is written")
	}
	want(t, "P12.2: Put", x.Put(long, value), api.OK)
	want(t, "P12.2: Put", x.Put("b", "1"), api.OK)
	want(t, "P12.2: Put once more", x.Put("b", "2"), api.OK)
	want(t, "P12.2: Put", x.Put("a", ""), api.OK)
	want(t, "P12.2: Delete", x.Delete("c"), api.OK)
	want(t, "P12.2: Delete of none", x.Delete("none"), api.OK)
	want(t, "P12.2: Delete behind Put", x.Put("d", "x"), api.OK)
	want(t, "P12.2: Delete behind Put", x.Delete("d"), api.OK)
	want(t, "P12.2: Put behind Delete", x.Delete("e"), api.OK)
	want(t, "P12.2: Put behind Delete", x.Put("e", "y"), api.OK)
	l := []api.Write{{Key: "a"}, {Key: "b", Value: "2"}, {Key: "c", Gone: true}, {Key: "d", Gone: true}, {Key: "e", Value: "y"}, {Key: long, Value: value}, {Key: "none", Gone: true}}
	if !slices.Equal(x.Writes(), l) {
		t.Errorf("P12.2: Writes: %v", x.Writes())
	}
	got := x.Writes()
	got[0].Value = "spoilt"
	_ = append(got[:1], api.Write{Key: "spoilt"})
	if !slices.Equal(x.Writes(), l) {
		t.Error("P12.4: Writes share memory")
	}
}

func TestMostWrites(t *testing.T) {
	x := txn.Begin(vers.New[string](), 0)
	for i := range api.MaxWrites {
		k := "k" + strconv.Itoa(i)
		if i%2 == 0 {
			want(t, "P12.2: Put "+k, x.Put(k, "v"), api.OK)
		} else {
			want(t, "P12.2: Delete "+k, x.Delete(k), api.OK)
		}
	}
	want(t, "P12.2: one more", x.Put("new", "v"), api.ErrLimit)
	want(t, "P12.2: one more", x.Delete("new"), api.ErrLimit)
	want(t, "P12.2: ErrLong ahead of ErrLimit", x.Put("", "v"), api.ErrLong)
	want(t, "P12.2: of a key that is written", x.Put("k1", "w"), api.OK)
	want(t, "P12.2: of a key that is written", x.Delete("k0"), api.OK)
	if _, ok := x.Get("new"); ok || len(x.Writes()) != api.MaxWrites {
		t.Errorf("P12.2: %d writes", len(x.Writes()))
	}
}

func TestGet(t *testing.T) {
	x := txn.Begin(store(), 5)
	x.Put("c", "own")
	x.Delete("a")
	x.Delete("none")
	x.Put("b", "")
	for k, v := range map[string]string{"a": "-", "b": "", "c": "own", "d": "-", "e": "1", "g": "-", "none": "-", "": "-"} {
		got, ok := x.Get(k)
		if ok != (v != "-") || ok && got != v || !ok && got != "" {
			t.Errorf("P12.3: Get(%s) = %q, %v", k, got, ok)
		}
	}
}

func TestScan(t *testing.T) {
	x := txn.Begin(store(), 5)
	x.Put("c", "own")
	x.Delete("a")
	x.Delete("none")
	x.Put("b", "own")
	x.Put("f", "own")
	for _, c := range []struct{ lo, hi, want string }{{"", "", "b=own c=own e=1 f=own "}, {"b", "e", "b=own c=own "}, {"bb", "f", "c=own e=1 "}, {"e", "", "e=1 f=own "}, {"f", "", "f=own "}, {"g", "", ""}, {"c", "c", ""}, {"e", "a", ""}, {"", "b", ""}, {"", "bb", "b=own "}} {
		s := x.Scan(c.lo, c.hi)
		for range 2 {
			if got := row(s); got != c.want {
				t.Errorf("P12.3: Scan(%q, %q): %s", c.lo, c.hi, got)
			}
		}
	}
	for k := range x.Scan("", "") {
		if k != "b" {
			t.Errorf("P12.3: left early: %s", k)
		}
		break
	}
	x = txn.Begin(vers.New[string](), 0)
	x.Put("a", "1")
	x.Delete("a")
	if got := row(x.Scan("", "")); got != "" {
		t.Errorf("P12.3: %s", got)
	}
}

// TestMoment writes while it is ranged over.
func TestMoment(t *testing.T) {
	for _, hi := range []string{"", "z"} {
		s := store()
		x := txn.Begin(s, 100)
		x.Put("b", "own")
		seq := x.Scan("", hi)
		x.Put("d", "own")
		got := ""
		for k, v := range seq {
			if got == "" {
				x.Delete("b")
				x.Put("c", "late")
				x.Put("f", "late")
				s.Put(50, "g", "late")
			}
			got += k + "=" + v + " "
		}
		if got != "a=1 b=own c=5 d=own g=7 " {
			t.Errorf("P12.3: changed meanwhile: %s", got)
		}
		if got := row(seq); got != "a=1 c=late d=own f=late g=late " {
			t.Errorf("P12.3: ranged over once more: %s", got)
		}
	}
}

func TestPrefix(t *testing.T) {
	s := vers.New[string]()
	for _, k := range []string{"", "a", "a/", "a/b", "a/c", "a0", "a\xff", "a\xffx", "b", "\xff", "\xff\xff", "\xff\xffa"} {
		s.Put(1, k, "")
	}
	x := txn.Begin(s, 1)
	x.Put("a/d", "")
	x.Delete("a/b")
	x.Put("b/a", "")
	for p, l := range map[string][]string{
		"a/": {"a/", "a/c", "a/d"}, "a": {"a", "a/", "a/c", "a/d", "a0", "a\xff", "a\xffx"}, "a\xff": {"a\xff", "a\xffx"}, "\xff": {"\xff", "\xff\xff", "\xff\xffa"}, "\xff\xff": {"\xff\xff", "\xff\xffa"},
		"": {"", "a", "a/", "a/c", "a/d", "a0", "a\xff", "a\xffx", "b", "b/a", "\xff", "\xff\xff", "\xff\xffa"}, "c": nil, "a/b": nil, "b/": {"b/a"}, "\xff\xff\xff": nil,
	} {
		var got []string
		for k := range x.Prefix(p) {
			got = append(got, k)
		}
		if !slices.Equal(got, l) {
			t.Errorf("P12.3: Prefix(%q): %q", p, got)
		}
	}
	for k := range x.Prefix("a") {
		if k != "a" {
			t.Errorf("P12.3: left early: %q", k)
		}
		break
	}
}

func TestClash(t *testing.T) {
	for _, c := range []struct {
		at    int
		key   string
		clash bool
	}{{5, "c", false}, {4, "c", true}, {0, "c", true}, {5, "a", false}, {5, "e", true}, {6, "e", false}, {6, "g", true}, {0, "none", false}} {
		for _, gone := range []bool{false, true} {
			x := txn.Begin(store(), c.at)
			x.Put("new", "x")
			if gone {
				x.Delete(c.key)
			} else {
				x.Put(c.key, "x")
			}
			if x.Clash() != c.clash {
				t.Errorf("P12.3: %s at %d: %v", c.key, c.at, x.Clash())
			}
		}
	}
	s := store()
	x := txn.Begin(s, 7)
	x.Get("a")
	x.Put("b", "x")
	if s.Put(8, "a", "x"); x.Clash() {
		t.Error("P12.3: what is read does not clash")
	}
	if s.Kill(8, "b"); !x.Clash() {
		t.Error("P12.3: what is put meanwhile clashes")
	}
}

// TestStays puts into the store behind what transactions see.
func TestStays(t *testing.T) {
	r := rand.New(rand.NewSource(14))
	for range 100 {
		s := vers.New[string]()
		var l []*txn.Txn
		var models []map[string]string
		now := map[string]string{}
		for at := 1; at < 30; at++ {
			k := string(rune('a' + r.Intn(4)))
			if r.Intn(3) == 0 {
				s.Kill(at, k)
				delete(now, k)
			} else {
				s.Put(at, k, strconv.Itoa(at))
				now[k] = strconv.Itoa(at)
			}
			l, models = append(l, txn.Begin(s, at)), append(models, maps.Clone(now))
			i := r.Intn(len(l))
			if k := string(rune('a' + r.Intn(4))); r.Intn(2) == 0 {
				l[i].Put(k, "own")
				models[i][k] = "own"
			} else {
				l[i].Delete(k)
				delete(models[i], k)
			}
		}
		for i, x := range l {
			if got := maps.Collect(x.Scan("", "")); !maps.Equal(got, models[i]) {
				t.Fatalf("P12.5: at %d: %v, not %v", x.At(), got, models[i])
			}
			for _, k := range []string{"a", "b", "c", "d"} {
				v, ok := x.Get(k)
				if m, there := models[i][k]; v != m || ok != there {
					t.Fatalf("P12.5: at %d: %s: %q, not %q", x.At(), k, v, m)
				}
			}
		}
	}
}
