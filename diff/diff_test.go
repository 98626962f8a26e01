package diff_test

import (
	"iter"
	"maps"
	"math"
	"math/rand"
	"slices"
	"testing"

	"handbill/diff"
	"handbill/omap"
)

type change = diff.Change[int]

func of(m map[string]int) *omap.Map[string, int] {
	o := omap.New[string, int]()
	for k, v := range m {
		o.Put(k, v)
	}
	return o
}

func put(k string, v int) change { return change{Key: k, Val: v} }
func gone(k string) change       { return change{Key: k, Gone: true} }

func TestOf(t *testing.T) {
	for i, c := range []struct {
		a, b map[string]int
		want []change
	}{
		{map[string]int{"a": 1, "b": 2}, map[string]int{"b": 3}, []change{gone("a"), put("b", 3)}}, {nil, nil, nil}, {map[string]int{"a": 1}, map[string]int{"a": 1}, nil}, {nil, map[string]int{"b": 0, "a": 1}, []change{put("a", 1), put("b", 0)}},
		{map[string]int{"b": 0, "a": 1}, nil, []change{gone("a"), gone("b")}}, {map[string]int{"a": 0}, map[string]int{"a": 1}, []change{put("a", 1)}}, {map[string]int{"a": 1}, map[string]int{"a": 0}, []change{put("a", 0)}},
		{map[string]int{"a": 1, "c": 3, "e": 5}, map[string]int{"b": 2, "c": 4, "e": 5, "f": 6}, []change{gone("a"), put("b", 2), put("c", 4), put("f", 6)}}, {map[string]int{"": 1}, map[string]int{"\xff": 1}, []change{gone(""), put("\xff", 1)}},
	} {
		s := diff.Of(of(c.a), of(c.b))
		for range 2 {
			if got := slices.Collect(s); !slices.Equal(got, c.want) {
				t.Errorf("P21.1: case %d: %v, not %v", i, got, c.want)
			}
		}
		if n := diff.Count(of(c.a), of(c.b)); n != len(c.want) {
			t.Errorf("P21.1: case %d: Count %d", i, n)
		}
		for n := range c.want {
			var got []change
			for x := range s {
				if got = append(got, x); len(got) == n+1 {
					break
				}
			}
			if !slices.Equal(got, c.want[:n+1]) {
				t.Errorf("P21.1: case %d, left early: %v", i, got)
			}
		}
	}
	m := of(map[string]int{"a": 1})
	if got := slices.Collect(diff.Of(nil, m)); !slices.Equal(got, []change{put("a", 1)}) || diff.Count(nil, m) != 1 {
		t.Errorf("P21.1: a nil map: %v", got)
	}
	if got := slices.Collect(diff.Of(m, nil)); !slices.Equal(got, []change{gone("a")}) || diff.Count(m, nil) != 1 {
		t.Errorf("P21.1: a nil map: %v", got)
	}
	if none := diff.Of[int](nil, nil); none == nil || len(slices.Collect(none)) > 0 || diff.Count[int](nil, nil) != 0 {
		t.Error("P21.1: nil maps")
	}
}

func TestKindsOfValues(t *testing.T) {
	type pair struct{ x, y string }
	a, b := omap.New[string, pair](), omap.New[string, pair]()
	a.Put("k", pair{"1", "2"})
	b.Put("k", pair{"1", "3"})
	if got := slices.Collect(diff.Of(a, b)); !slices.Equal(got, []diff.Change[pair]{{Key: "k", Val: pair{"1", "3"}}}) {
		t.Errorf("P21.1: %v", got)
	}
	// Values whose type may be compared, but which themselves may not.
	c, d := omap.New[string, any](), omap.New[string, any]()
	c.Put("k", []int{1})
	c.Put("l", 1)
	d.Put("k", []int{1})
	d.Put("l", "1")
	if n := diff.Count(c, d); n != 2 {
		t.Errorf("P0.1: %d", n)
	}
}

// counted tells changes of keys a, b, .., and counts how many were asked for.
func counted(n int, asked *int) iter.Seq[change] {
	return func(yield func(change) bool) {
		for i := range n {
			*asked++
			if !yield(put(string(rune('a'+i)), i)) {
				return
			}
		}
	}
}

func TestAfter(t *testing.T) {
	s := slices.Values([]change{put("a", 1), gone("b"), put("c", 3)})
	for key, want := range map[string][]change{"": {put("a", 1), gone("b"), put("c", 3)}, "a": {gone("b"), put("c", 3)}, "aa": {gone("b"), put("c", 3)}, "b": {put("c", 3)}, "c": nil, "z": nil, "A": {put("a", 1), gone("b"), put("c", 3)}} {
		after := diff.After(s, key)
		for range 2 {
			if got := slices.Collect(after); !slices.Equal(got, want) {
				t.Errorf("P21.1: After(%q): %v", key, got)
			}
		}
	}
	for c := range diff.After(s, "a") {
		if c != gone("b") {
			t.Errorf("P21.1: left early: %v", c)
		}
		break
	}
	if none := diff.After[int](nil, ""); none == nil || len(slices.Collect(none)) > 0 {
		t.Error("P0.1: After of nil")
	}
}

func TestSome(t *testing.T) {
	for _, c := range []struct {
		has, n, want int
		more         bool
	}{{3, 2, 2, true}, {3, 3, 3, false}, {3, 4, 3, false}, {3, 1, 1, true}, {3, 0, 0, true}, {3, -1, 0, true}, {3, math.MinInt, 0, true}, {3, math.MaxInt, 3, false}, {0, 5, 0, false}, {0, 0, 0, false}, {0, -1, 0, false}} {
		asked := 0
		l, more := diff.Some(counted(c.has, &asked), c.n)
		if len(l) != c.want || more != c.more || asked > c.want+1 {
			t.Errorf("P21.1: Some(%d) of %d: %v, %v, asked for %d", c.n, c.has, l, more, asked)
		}
		for i, x := range l {
			if x != put(string(rune('a'+i)), i) {
				t.Errorf("P21.1: Some: %v", l)
			}
		}
	}
	if l, more := diff.Some[int](nil, 3); len(l) > 0 || more {
		t.Error("P0.1: Some of nil")
	}
}

func TestFold(t *testing.T) {
	m := of(map[string]int{"a": 1, "b": 2})
	f := diff.Fold(m, []change{put("c", 3), gone("a"), put("b", 0), gone("none"), put("d", 4), gone("d"), gone("e"), put("e", 5), {Key: "b", Val: 9, Gone: true}, put("b", 7)})
	if got := maps.Collect(f.All()); !maps.Equal(got, map[string]int{"b": 7, "c": 3, "e": 5}) {
		t.Errorf("P21.2: Fold: %v", got)
	}
	f.Put("a", 77)
	if got := maps.Collect(m.All()); !maps.Equal(got, map[string]int{"a": 1, "b": 2}) {
		t.Errorf("P21.3: what is handed in is changed: %v", got)
	}
	if f := diff.Fold(nil, []change{put("a", 1)}); f.Len() != 1 {
		t.Error("P21.2: Fold into nil")
	}
	if f := diff.Fold[int](nil, nil); f == nil || f.Len() != 0 {
		t.Error("P21.2: Fold of nothing into nil")
	}
	g := diff.Fold(m, nil)
	g.Delete("a")
	if m.Len() != 2 {
		t.Error("P21.2: Fold of nothing is a copy")
	}
}

func TestKeepsNothing(t *testing.T) {
	a, b := of(map[string]int{"a": 1}), of(map[string]int{"b": 1})
	s := diff.Of(a, b)
	a.Put("c", 1)
	b.Put("a", 1)
	want := []change{gone("a"), put("b", 1)}
	if got := slices.Collect(s); !slices.Equal(got, want) {
		t.Errorf("P21.3: Of keeps what is handed in: %v", got)
	}
	x, _ := diff.Some(s, 5)
	y, _ := diff.Some(s, 5)
	x[0].Key = "spoilt"
	_ = append(x[:1], put("spoilt", 1))
	if !slices.Equal(y, want) {
		t.Errorf("P21.3: answers share memory: %v", y)
	}
}

func TestBack(t *testing.T) {
	r := rand.New(rand.NewSource(21))
	for range 2000 {
		a, b := map[string]int{}, map[string]int{}
		for range r.Intn(8) {
			a[string(rune('a'+r.Intn(6)))] = r.Intn(3)
			b[string(rune('a'+r.Intn(6)))] = r.Intn(3)
		}
		l, more := diff.Some(diff.Of(of(a), of(b)), 100)
		if got := maps.Collect(diff.Fold(of(a), l).All()); !maps.Equal(got, b) || more || diff.Count(of(a), of(b)) != len(l) {
			t.Fatalf("P21.4: %v and %v: %v", a, b, got)
		}
		if !slices.IsSortedFunc(l, func(x, y change) int {
			if x.Key < y.Key {
				return -1
			}
			return 1
		}) {
			t.Fatalf("P21.1: %v", l)
		}
		for _, c := range l {
			if v, ok := a[c.Key]; !c.Gone && ok && v == c.Val || c.Gone && (c.Val != 0 || !ok) {
				t.Fatalf("P21.1: %v and %v: %v", a, b, c)
			}
		}
	}
}
