package omap_test

import (
	"cmp"
	"iter"
	"maps"
	"math"
	"math/rand"
	"slices"
	"strings"
	"testing"

	"handbill/omap"
)

type kv[K cmp.Ordered, V any] struct {
	k K
	v V
}

func pairs[K cmp.Ordered, V any](s iter.Seq2[K, V]) []kv[K, V] {
	var l []kv[K, V]
	for k, v := range s {
		l = append(l, kv[K, V]{k, v})
	}
	return l
}

func of(keys ...int) *omap.Map[int, string] {
	m := omap.New[int, string]()
	for _, k := range keys {
		m.Put(k, strings.Repeat("v", k%7))
	}
	return m
}

func TestPutGetDelete(t *testing.T) {
	m := omap.New[int, string]()
	if m.Len() != 0 || len(pairs(m.All())) > 0 || len(pairs(m.Back())) > 0 || len(pairs(m.Range(-9, 9))) > 0 {
		t.Error("P2.1: a new map is not empty")
	}
	if v, ok := m.Get(1); v != "" || ok {
		t.Errorf("P2.1: Get of none: %q, %v", v, ok)
	}
	if m.Delete(1) {
		t.Error("P2.1: Delete of none")
	}
	if !m.Put(2, "b") || !m.Put(1, "a") || m.Put(2, "c") || m.Len() != 2 {
		t.Error("P2.1: Put tells wrong what is new")
	}
	if v, ok := m.Get(2); v != "c" || !ok {
		t.Errorf("P2.1: Get(2) = %q, %v", v, ok)
	}
	if !m.Delete(2) || m.Delete(2) || m.Len() != 1 {
		t.Error("P2.1: Delete tells wrong what was there")
	}
	if v, ok := m.Get(2); v != "" || ok {
		t.Errorf("P2.1: Get behind Delete: %q, %v", v, ok)
	}
	if !m.Put(2, "") {
		t.Error("P2.1: Put behind Delete")
	}
	if v, ok := m.Get(2); v != "" || !ok {
		t.Errorf("P2.1: a zero value: %q, %v", v, ok)
	}
}

// TestModel does at random what a map of Go does as well.
func TestModel(t *testing.T) {
	r := rand.New(rand.NewSource(3))
	for _, span := range []int{3, 20, 400} {
		m, model := omap.New[int, int](), map[int]int{}
		for i := range 4000 {
			k := r.Intn(span)
			_, was := model[k]
			if r.Intn(5) < 2 {
				if m.Delete(k) != was {
					t.Fatalf("P2.1: Delete(%d), there: %v", k, was)
				}
				delete(model, k)
			} else {
				if m.Put(k, i) == was {
					t.Fatalf("P2.1: Put(%d), there: %v", k, was)
				}
				model[k] = i
			}
			if i%40 == 0 {
				hold(t, m, model, r.Intn(span), r.Intn(span+2))
			}
		}
	}
}

func hold(t *testing.T, m *omap.Map[int, int], model map[int]int, lo, hi int) {
	t.Helper()
	var want, part []kv[int, int]
	for _, k := range slices.Sorted(maps.Keys(model)) {
		want = append(want, kv[int, int]{k, model[k]})
		if k >= lo && k < hi {
			part = append(part, kv[int, int]{k, model[k]})
		}
		if v, ok := m.Get(k); !ok || v != model[k] {
			t.Fatalf("P2.1: Get(%d) = %d, %v", k, v, ok)
		}
	}
	if m.Len() != len(model) || !slices.Equal(pairs(m.All()), want) {
		t.Fatalf("P2.2: All is %v, not %v", pairs(m.All()), want)
	}
	if got := pairs(m.Range(lo, hi)); !slices.Equal(got, part) {
		t.Fatalf("P2.2: Range(%d, %d) is %v, not %v", lo, hi, got, part)
	}
	slices.Reverse(want)
	if !slices.Equal(pairs(m.Back()), want) {
		t.Fatalf("P2.2: Back is %v, not %v", pairs(m.Back()), want)
	}
}

func TestKindsOfKeys(t *testing.T) {
	words := omap.New[string, int]()
	for i, w := range []string{"b", "", "ab", "a", "B", "\xff"} {
		words.Put(w, i)
	}
	if got := slices.Collect(omap.Keys(words.All())); !slices.Equal(got, []string{"", "B", "a", "ab", "b", "\xff"}) {
		t.Errorf("P2.2: %q", got)
	}
	floats := omap.New[float64, []int]()
	for _, k := range []float64{2.5, math.Inf(1), -1, math.Inf(-1), 0} {
		floats.Put(k, []int{int(max(min(k, 9), -9))})
	}
	if got := slices.Collect(omap.Keys(floats.All())); !slices.Equal(got, []float64{math.Inf(-1), -1, 0, 2.5, math.Inf(1)}) {
		t.Errorf("P2.2: %v", got)
	}
	if v, ok := floats.Get(-1); !ok || !slices.Equal(v, []int{-1}) {
		t.Errorf("P2.1: %v, %v", v, ok)
	}
	bytes := omap.New[uint8, struct{}]()
	for i := range 300 {
		bytes.Put(uint8(i), struct{}{})
	}
	if bytes.Len() != 256 {
		t.Errorf("P2.1: %d", bytes.Len())
	}
}

func TestRangeEdges(t *testing.T) {
	m := of(1, 3, 5)
	for _, c := range []struct {
		lo, hi int
		want   []int
	}{{1, 5, []int{1, 3}}, {2, 6, []int{3, 5}}, {3, 3, nil}, {5, 1, nil}, {math.MinInt, math.MaxInt, []int{1, 3, 5}}, {6, 9, nil}, {0, 1, nil}, {5, 6, []int{5}}} {
		if got := slices.Collect(omap.Keys(m.Range(c.lo, c.hi))); !slices.Equal(got, c.want) {
			t.Errorf("P2.2: Range(%d, %d) is %v", c.lo, c.hi, got)
		}
	}
}

// TestMoment changes the map while it is ranged over.
func TestMoment(t *testing.T) {
	for name, f := range map[string]func(m *omap.Map[int, string]) iter.Seq2[int, string]{
		"All":   (*omap.Map[int, string]).All,
		"Back":  (*omap.Map[int, string]).Back,
		"Range": func(m *omap.Map[int, string]) iter.Seq2[int, string] { return m.Range(0, 100) },
	} {
		m := of(1, 2, 3, 4, 5, 6, 7, 8)
		s := f(m)
		m.Put(50, "late")
		want := pairs(f(m))
		if len(want) != 9 {
			t.Fatalf("P2.2: %s: %v", name, want)
		}
		var got []kv[int, string]
		for k, v := range s {
			if len(got) == 0 {
				for i := range 9 {
					m.Put(i, "changed")
					m.Delete(2 * i)
					m.Put(60+i, "new")
				}
			}
			got = append(got, kv[int, string]{k, v})
		}
		if !slices.Equal(got, want) {
			t.Errorf("P2.2: %s, changed meanwhile: %v, not %v", name, got, want)
		}
		if again := pairs(s); slices.Equal(again, want) || !slices.Equal(again, pairs(f(m))) {
			t.Errorf("P2.2: %s, ranged over once more: %v", name, again)
		}
	}
}

func TestLeftEarly(t *testing.T) {
	m := of(1, 2, 3, 4, 5)
	for name, s := range map[string]iter.Seq2[int, string]{
		"All": m.All(), "Back": m.Back(), "Range": m.Range(1, 6), "Merge": omap.Merge(m.All(), of(2, 4, 9).All()),
		"Merge of a nil a": omap.Merge(nil, m.All()), "Merge of a nil b": omap.Merge(m.All(), nil),
	} {
		whole := pairs(s)
		for n := range whole {
			var got []kv[int, string]
			for k, v := range s {
				got = append(got, kv[int, string]{k, v})
				if len(got) == n+1 {
					break
				}
			}
			if !slices.Equal(got, whole[:n+1]) {
				t.Errorf("P2.2: %s, left behind %d: %v", name, n+1, got)
			}
		}
	}
}

func TestCopy(t *testing.T) {
	m := of(1, 2, 3)
	c := m.Copy()
	m.Put(4, "m")
	m.Delete(1)
	c.Put(5, "c")
	c.Put(2, "c")
	if got := slices.Collect(omap.Keys(m.All())); !slices.Equal(got, []int{2, 3, 4}) || m.Len() != 3 {
		t.Errorf("P2.2: the map: %v", got)
	}
	if got := slices.Collect(omap.Keys(c.All())); !slices.Equal(got, []int{1, 2, 3, 5}) || c.Len() != 4 {
		t.Errorf("P2.2: its copy: %v", got)
	}
	if v, _ := m.Get(2); v != "vv" {
		t.Errorf("P2.4: the copy's value shows in the map: %q", v)
	}
}

// counted tells 1, 2, .. n, and counts how many were asked for.
func counted(n int, asked *int) iter.Seq[int] {
	return func(yield func(int) bool) {
		for i := 1; i <= n; i++ {
			*asked++
			if !yield(i) {
				return
			}
		}
	}
}

func TestTake(t *testing.T) {
	for _, c := range []struct{ has, n, want int }{{5, 2, 2}, {5, 5, 5}, {5, 6, 5}, {5, math.MaxInt, 5}, {5, 0, 0}, {5, -1, 0}, {5, math.MinInt, 0}, {0, 3, 0}} {
		asked := 0
		l := omap.Take(counted(c.has, &asked), c.n)
		if len(l) != c.want || asked != c.want {
			t.Errorf("P2.3: Take(%d) of %d: %v, asked for %d", c.n, c.has, l, asked)
		}
		for i, v := range l {
			if v != i+1 {
				t.Errorf("P2.3: Take: %v", l)
			}
		}
	}
	if len(omap.Take[int](nil, 3)) > 0 {
		t.Error("P2.4: Take of nil")
	}
	s := slices.Values([]int{1, 2, 3})
	a, b := omap.Take(s, 2), omap.Take(s, 2)
	a[0] = 9
	_ = append(a[:1:cap(a)], 9, 9)
	if !slices.Equal(b, []int{1, 2}) {
		t.Error("P0.4: two answers of Take share their memory")
	}
}

func TestKeys(t *testing.T) {
	m := of(3, 1, 2)
	s := omap.Keys(m.All())
	for range 2 {
		if got := slices.Collect(s); !slices.Equal(got, []int{1, 2, 3}) {
			t.Errorf("P2.3: Keys: %v", got)
		}
	}
	if got := omap.Take(s, 1); !slices.Equal(got, []int{1}) {
		t.Errorf("P2.3: one of Keys: %v", got)
	}
	if none := omap.Keys[int, int](nil); none == nil || len(slices.Collect(none)) > 0 {
		t.Error("P2.4: Keys of nil")
	}
}

func TestMerge(t *testing.T) {
	for _, c := range []struct{ a, b, want []int }{
		{nil, nil, nil}, {[]int{1, 2}, nil, []int{1, 2}}, {nil, []int{1, 2}, []int{1, 2}}, {[]int{1, 3}, []int{2, 4}, []int{1, 2, 3, 4}},
		{[]int{1, 2, 3}, []int{2}, []int{1, 2, 3}}, {[]int{5, 6}, []int{1, 2}, []int{1, 2, 5, 6}}, {[]int{1, 2}, []int{5, 6}, []int{1, 2, 5, 6}},
		{[]int{1, 2}, []int{1, 2}, []int{1, 2}}, {[]int{2}, []int{1, 2, 3}, []int{1, 2, 3}},
	} {
		a, b := omap.New[int, string](), omap.New[int, string]()
		for _, k := range c.a {
			a.Put(k, "a")
		}
		for _, k := range c.b {
			b.Put(k, "b")
		}
		s := omap.Merge(a.All(), b.All())
		for range 2 {
			got := pairs(s)
			for i, p := range got {
				from := "a"
				if _, ok := b.Get(p.k); ok {
					from = "b"
				}
				if p.v != from || i >= len(c.want) || p.k != c.want[i] {
					t.Errorf("P2.3: Merge of %v and %v: %v", c.a, c.b, got)
				}
			}
			if len(got) != len(c.want) {
				t.Errorf("P2.3: Merge of %v and %v: %v", c.a, c.b, got)
			}
		}
	}
	if none := omap.Merge[int, int](nil, nil); none == nil || len(pairs(none)) > 0 {
		t.Error("P2.4: Merge of nils")
	}
}

// TestMergeAsks tells that of b no more is taken than the loop needs.
func TestMergeAsks(t *testing.T) {
	asked := 0
	endless := func(yield func(int, string) bool) {
		for i := 10; ; i++ {
			asked++
			if !yield(i, "b") {
				return
			}
		}
	}
	var got []int
	for k := range omap.Merge(of(1, 11).All(), endless) {
		got = append(got, k)
		if len(got) == 4 {
			break
		}
	}
	if !slices.Equal(got, []int{1, 10, 11, 12}) || asked != 3 {
		t.Errorf("P2.3: %v, asked for %d", got, asked)
	}
}

// TestMany puts keys in order, which would make a tree that is not balanced a list.
func TestMany(t *testing.T) {
	m := omap.New[int, int]()
	const n = 100000
	for i := range n {
		m.Put(i, -i)
	}
	for i := 0; i < n; i += 2 {
		m.Delete(i)
	}
	want := 1
	for k, v := range m.All() {
		if k != want || v != -k {
			t.Fatalf("P2.5: %d, %d at %d", k, v, want)
		}
		want += 2
	}
	if m.Len() != n/2 || want != n+1 {
		t.Errorf("P2.5: %d, %d", m.Len(), want)
	}
}
