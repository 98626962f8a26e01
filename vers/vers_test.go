package vers_test

import (
	"iter"
	"maps"
	"math"
	"math/rand"
	"slices"
	"strings"
	"testing"

	"handbill/api"
	"handbill/vers"
)

type store = vers.Store[string]

func want(t *testing.T, what string, got, e api.Errno) {
	t.Helper()
	if got != e {
		t.Errorf("%s: %d, not %d", what, got, e)
	}
}

func row(s iter.Seq2[string, string]) string {
	var b strings.Builder
	for k, v := range s {
		b.WriteString(k + "=" + v + " ")
	}
	return b.String()
}

func TestPutAndKill(t *testing.T) {
	s := vers.New[string]()
	if s.Count() != 0 || s.Low() != 0 || s.Last("k") != 0 || len(s.Chain("k")) > 0 {
		t.Error("P11.1: a new store")
	}
	for _, at := range []int{0, -1, api.MaxTime + 1, math.MaxInt, math.MinInt} {
		want(t, "P11.1: Put", s.Put(at, "k", "x"), api.ErrRange)
		want(t, "P11.1: Kill", s.Kill(at, "k"), api.ErrRange)
	}
	want(t, "P11.1: Put", s.Put(3, "k", "a"), api.OK)
	want(t, "P11.1: Put of that time", s.Put(3, "k", "b"), api.ErrClash)
	want(t, "P11.1: Kill of that time", s.Kill(3, "k"), api.ErrClash)
	want(t, "P11.1: Put of an earlier time", s.Put(2, "k", "b"), api.ErrClash)
	want(t, "P11.1: Kill of an earlier time", s.Kill(1, "k"), api.ErrClash)
	want(t, "P11.1: Put of another key", s.Put(1, "j", "b"), api.OK)
	want(t, "P11.1: Kill", s.Kill(4, "k"), api.OK)
	want(t, "P11.1: Kill of one that is gone", s.Kill(5, "k"), api.OK)
	want(t, "P11.1: Kill of one that is none", s.Kill(6, "none"), api.OK)
	want(t, "P11.1: the last time", s.Put(api.MaxTime, "k", "z"), api.OK)
	want(t, "P11.1: behind the last time", s.Put(api.MaxTime, "k", "z"), api.ErrClash)
	want(t, "P11.1: an empty key", s.Put(1, "", "e"), api.OK)
	if s.Last("k") != api.MaxTime || s.Last("j") != 1 || s.Last("none") != 6 || s.Last("") != 1 || s.Last("other") != 0 || s.Count() != 7 {
		t.Errorf("P11.1: Last: %d, %d, %d; Count: %d", s.Last("k"), s.Last("j"), s.Last("none"), s.Count())
	}
	l := []vers.Version[string]{{At: 3, Val: "a"}, {At: 4, Gone: true}, {At: 5, Gone: true}, {At: api.MaxTime, Val: "z"}}
	if !slices.Equal(s.Chain("k"), l) || len(s.Chain("other")) > 0 {
		t.Errorf("P11.1: Chain: %v", s.Chain("k"))
	}
}

func TestGet(t *testing.T) {
	s := vers.New[string]()
	s.Put(1, "k", "a")
	s.Put(5, "k", "b")
	s.Kill(7, "k")
	s.Put(9, "k", "")
	for at, v := range map[int]string{0: "-", -1: "-", math.MinInt: "-", 1: "a", 4: "a", 5: "b", 6: "b", 7: "-", 8: "-", 9: "", 10: "", math.MaxInt: ""} {
		got, ok := s.Get("k", at)
		if ok != (v != "-") || ok && got != v || !ok && got != "" {
			t.Errorf("P11.2: Get at %d: %q, %v", at, got, ok)
		}
	}
	if v, ok := s.Get("j", 9); v != "" || ok {
		t.Errorf("P11.2: Get of none: %q", v)
	}
	numbers := vers.New[[]int]()
	numbers.Put(1, "k", []int{1})
	if v, ok := numbers.Get("k", 1); !ok || !slices.Equal(v, []int{1}) {
		t.Errorf("P11.2: another kind of values: %v", v)
	}
	if v, ok := numbers.Get("k", 0); ok || v != nil {
		t.Errorf("P11.2: another kind of values: %v", v)
	}
}

func TestScan(t *testing.T) {
	s := vers.New[string]()
	for i, k := range []string{"c", "a", "", "b", "ab", "\xff"} {
		s.Put(i+1, k, strings.Repeat("v", i))
	}
	s.Kill(9, "b")
	for _, c := range []struct {
		lo, hi string
		at     int
		want   string
	}{
		{"", "", 6, "=vv a=v ab=vvvv b=vvv c= \xff=vvvvv "}, {"", "", 9, "=vv a=v ab=vvvv c= \xff=vvvvv "}, {"", "", 3, "=vv a=v c= "}, {"", "", 0, ""}, {"a", "b", 9, "a=v ab=vvvv "},
		{"ab", "c", 8, "ab=vvvv b=vvv "}, {"ab", "c", 9, "ab=vvvv "}, {"b", "", 9, "c= \xff=vvvvv "}, {"b", "b", 8, ""}, {"c", "a", 8, ""}, {"\xff\xff", "", 8, ""}, {"", "a", 8, "=vv "}, {"", "\x00", 8, "=vv "}, {"", "", -5, ""},
	} {
		seq := s.Scan(c.lo, c.hi, c.at)
		for range 2 {
			if got := row(seq); got != c.want {
				t.Errorf("P11.2: Scan(%q, %q, %d): %q", c.lo, c.hi, c.at, got)
			}
		}
	}
	for k := range s.Scan("", "", 9) {
		if k != "" {
			t.Errorf("P11.2: left early: %q", k)
		}
		break
	}
}

// TestMoment changes the store while it is ranged over.
func TestMoment(t *testing.T) {
	for _, hi := range []string{"", "z"} {
		s := vers.New[string]()
		for _, k := range []string{"a", "b", "c", "d", "e"} {
			s.Put(1, k, "1")
			s.Put(2, k, "2")
		}
		seq := s.Scan("a", hi, 100)
		s.Put(3, "c", "3")
		got := ""
		for k, v := range seq {
			if got == "" {
				s.Put(4, "bb", "new")
				s.Put(4, "d", "new")
				s.Kill(4, "b")
				s.Kill(4, "e")
				s.Prune(5)
				s.Put(6, "c", "new")
			}
			got += k + "=" + v + " "
		}
		if got != "a=2 b=2 c=3 d=2 e=2 " {
			t.Errorf("P11.2: changed meanwhile: %s", got)
		}
		if got := row(seq); got != "a=2 bb=new c=new d=new " {
			t.Errorf("P11.2: ranged over once more: %s", got)
		}
	}
}

func TestPrune(t *testing.T) {
	make1 := func() *store {
		s := vers.New[string]()
		s.Put(1, "a", "1")
		s.Put(5, "a", "5")
		s.Put(2, "b", "2")
		s.Kill(4, "b")
		s.Kill(3, "c")
		s.Put(7, "c", "7")
		s.Put(6, "d", "6")
		s.Kill(8, "d")
		return s
	}
	for _, c := range []struct {
		low, dropped int
		chains       [4]int
	}{{1, 0, [4]int{2, 2, 2, 2}}, {2, 0, [4]int{2, 2, 2, 2}}, {3, 1, [4]int{2, 2, 1, 2}}, {4, 3, [4]int{2, 0, 1, 2}}, {5, 4, [4]int{1, 0, 1, 2}}, {7, 4, [4]int{1, 0, 1, 2}}, {8, 6, [4]int{1, 0, 1, 0}}, {api.MaxTime, 6, [4]int{1, 0, 1, 0}}} {
		s := make1()
		if n := s.Prune(c.low); n != c.dropped || s.Low() != c.low || s.Count() != 8-n {
			t.Errorf("P11.3: Prune(%d) = %d, Low %d, Count %d", c.low, n, s.Low(), s.Count())
		}
		for i, k := range []string{"a", "b", "c", "d"} {
			if n := len(s.Chain(k)); n != c.chains[i] {
				t.Errorf("P11.3: behind Prune(%d) %s has %d versions", c.low, k, n)
			}
		}
		if n := s.Prune(c.low); n != 0 {
			t.Errorf("P11.3: once more: %d", n)
		}
	}
	s := make1()
	for _, low := range []int{0, -1, math.MinInt, api.MaxTime + 1, math.MaxInt} {
		if n := s.Prune(low); n != 0 || s.Low() != 0 || s.Count() != 8 {
			t.Errorf("P11.3: Prune(%d) = %d, Low %d", low, n, s.Low())
		}
	}
	s.Prune(5)
	if n := s.Prune(4); n != 0 || s.Low() != 5 {
		t.Errorf("P11.3: back: %d, Low %d", n, s.Low())
	}
	want(t, "P11.1: below Low", s.Put(4, "new", "x"), api.ErrClash)
	want(t, "P11.1: below Low", s.Kill(4, "b"), api.ErrClash)
	want(t, "P11.1: at Low", s.Put(5, "b", "x"), api.OK)
	want(t, "P11.1: at Low, not above Last", s.Put(5, "a", "x"), api.ErrClash)
	if s.Last("b") != 5 {
		t.Errorf("P11.1: Last: %d", s.Last("b"))
	}
}

func TestCopy(t *testing.T) {
	s := vers.New[string]()
	s.Put(1, "a", "1")
	s.Put(2, "a", "2")
	s.Put(3, "a", "3")
	s.Prune(2)
	c := s.Copy()
	if c.Low() != 2 || c.Count() != 2 || row(c.Scan("", "", 9)) != "a=3 " {
		t.Errorf("P11.3: Copy: %d, %d", c.Low(), c.Count())
	}
	s.Put(4, "a", "store")
	c.Put(4, "a", "copy")
	c.Put(4, "b", "copy")
	c.Prune(4)
	if row(s.Scan("", "", 9)) != "a=store " || row(c.Scan("", "", 9)) != "a=copy b=copy " || s.Low() != 2 || s.Count() != 3 || c.Count() != 2 || row(s.Scan("", "", 2)) != "a=2 " {
		t.Errorf("P11.4: they share memory: %s; %s", row(s.Scan("", "", 9)), row(c.Scan("", "", 9)))
	}
	l := s.Chain("a")
	l[0].Val = "spoilt"
	_ = append(l[:1], vers.Version[string]{Val: "spoilt"})
	if s.Chain("a")[0].Val != "2" || s.Chain("a")[1].Val != "3" {
		t.Error("P11.4: Chain shares memory")
	}
}

// TestCopyOfChains lets a store and its copy go on with several versions of a key.
func TestCopyOfChains(t *testing.T) {
	for n := range 9 {
		s := vers.New[string]()
		for at := 1; at <= n; at++ {
			s.Put(at, "a", "old")
		}
		c := s.Copy()
		s.Put(n+1, "a", "store")
		c.Put(n+1, "a", "copy")
		if v, _ := s.Get("a", n+1); v != "store" {
			t.Errorf("P11.4: the store behind %d versions: %s", n, v)
		}
		if v, _ := c.Get("a", n+1); v != "copy" {
			t.Errorf("P11.4: the copy behind %d versions: %s", n, v)
		}
	}
}

// TestModel holds a store against all its versions in a list, of which none is ever dropped.
func TestModel(t *testing.T) {
	r := rand.New(rand.NewSource(13))
	keys := []string{"a", "b", "c", "d"}
	for range 200 {
		s, all := vers.New[string](), map[string][]vers.Version[string]{}
		at, low := 0, 0
		for range 50 {
			at += r.Intn(3)
			k := keys[r.Intn(4)]
			v := vers.Version[string]{At: at, Val: string(rune('a' + r.Intn(26))), Gone: r.Intn(3) == 0}
			e := api.OK
			if v.Gone {
				v.Val = ""
				e = s.Kill(at, k)
			} else {
				e = s.Put(at, k, v.Val)
			}
			if e == api.OK {
				all[k] = append(all[k], v)
			}
			if r.Intn(12) == 0 {
				low = max(low, r.Intn(at+1))
				s.Prune(low)
			}
			seen(t, s, all, low+r.Intn(max(at-low, 1)))
			if t.Failed() {
				return
			}
		}
	}
}

func seen(t *testing.T, s *store, all map[string][]vers.Version[string], at int) {
	t.Helper()
	got := ""
	for _, k := range slices.Sorted(maps.Keys(all)) {
		var last *vers.Version[string]
		for i, v := range all[k] {
			if v.At <= at {
				last = &all[k][i]
			}
		}
		v, ok := s.Get(k, at)
		if ok != (last != nil && !last.Gone) || ok && v != last.Val {
			t.Errorf("P11.5: Get(%s, %d) = %q, %v", k, at, v, ok)
		}
		if ok {
			got += k + "=" + v + " "
		}
	}
	if row(s.Scan("", "", at)) != got || s.Low() > at {
		t.Errorf("P11.5: at %d: %q, not %q", at, row(s.Scan("", "", at)), got)
	}
}
