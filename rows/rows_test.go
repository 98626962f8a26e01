package rows_test

import (
	"math"
	"math/rand"
	"slices"
	"strconv"
	"strings"
	"testing"

	"handbill/api"
	"handbill/rows"
)

const great = api.MaxTime

var long = strings.Repeat("é", 250)

// none tells texts that are no row of any kind.
var none = []string{"", "x", "{}", "[]", "null", "1", `{"n":1}`, `{"read":1}`, `{"folder":1}`, `{"marks":1}`, `{"marks":{}}`, `{"other":1}`, strings.Repeat(" ", 30000)}

func TestFeed(t *testing.T) {
	for f, want := range map[rows.Feed]string{
		{}: `{"n":0,"title":""}`, {Title: "a\"é", N: 7}: `{"n":7,"title":"a\"é"}`, {Title: long, N: 1000000}: `{"n":1000000,"title":"` + long + `"}`,
	} {
		s, e := rows.PutFeed(f)
		if s != want || e != api.OK {
			t.Errorf("P15.1: PutFeed: %s, %d", s, e)
		}
		if back, ok := rows.GetFeed(want); back != f || !ok {
			t.Errorf("P15.4: GetFeed(%s) = %v, %v", want, back, ok)
		}
	}
	for _, f := range []rows.Feed{{N: -1}, {N: 1000001}, {N: math.MaxInt}, {N: math.MinInt}, {Title: long + "a"}, {Title: "\xff"}} {
		if s, e := rows.PutFeed(f); s != "" || e != api.ErrForm {
			t.Errorf("P15.1: PutFeed(%v) = %s, %d", f, s, e)
		}
	}
	for _, s := range append(slices.Clone(none), `{"title":"","n":0}`, `{"n":0, "title":""}`, `{"n":0,"title":""} `, `{"n":-1,"title":""}`, `{"n":1000001,"title":""}`, `{"n":0,"title":"","x":0}`, `{"n":"0","title":""}`, `{"n":0,"title":0}`,
		`{"n":0,"title":"\u0061"}`, `{"n":0,"title":"`+long+`a"}`, `{"n":-0,"title":""}`, `{"n":0,"title":""`, `{"n":0,"title":null}`, `{"n":null,"title":""}`) {
		if f, ok := rows.GetFeed(s); ok || f != (rows.Feed{}) {
			t.Errorf("P15.1: GetFeed(%.60q) = %v, %v", s, f, ok)
		}
	}
}

func TestEntry(t *testing.T) {
	for e, want := range map[api.Entry]string{
		{GUID: "g"}: `{"guid":"g","link":"","title":"","when":0}`, {Num: 7, GUID: "g", Title: "t\n", Link: "l", When: 5}: `{"guid":"g","link":"l","title":"t\n","when":5}`,
		{GUID: long, Title: long, Link: long, When: great}: `{"guid":"` + long + `","link":"` + long + `","title":"` + long + `","when":1099511627776}`,
	} {
		s, errno := rows.PutEntry(e)
		if s != want || errno != api.OK {
			t.Errorf("P15.1: PutEntry: %s, %d", s, errno)
		}
		for _, n := range []int{0, 5, -1, math.MaxInt} {
			e.Num = n
			if back, ok := rows.GetEntry(want, n); back != e || !ok {
				t.Errorf("P15.4: GetEntry(%s) = %v, %v", want, back, ok)
			}
		}
	}
	control := strings.Repeat("\x01", 500)
	s, e := rows.PutEntry(api.Entry{GUID: control, Title: control, Link: control})
	if back, ok := rows.GetEntry(s, 3); e != api.OK || !ok || back != (api.Entry{Num: 3, GUID: control, Title: control, Link: control}) {
		t.Errorf("P15.4: an entry of the longest row: %d, %v", e, ok)
	}
	for _, e := range []api.Entry{{}, {Link: "l"}, {GUID: long + "a"}, {GUID: "g", Title: long + "a"}, {GUID: "g", Link: long + "a"}, {GUID: "\xff"}, {GUID: "g", Title: "\xff"}, {GUID: "g", Link: "\xff"}, {GUID: "g", When: -1}, {GUID: "g", When: great + 1}, {GUID: "g", When: math.MinInt}} {
		if s, errno := rows.PutEntry(e); s != "" || errno != api.ErrForm {
			t.Errorf("P15.1: PutEntry(%v) = %s, %d", e, s, errno)
		}
	}
	for _, s := range append(slices.Clone(none), `{"guid":"","link":"","title":"","when":0}`, `{"guid":"g","link":"","title":"","when":-1}`, `{"guid":"g","link":"","title":"","when":1099511627777}`, `{"guid":"g","link":"","when":0,"title":""}`,
		`{"guid":"g","link":"","num":0,"title":"","when":0}`, `{"guid":"g","link":"","title":""}`, `{"guid":"g","title":"","when":0}`, `{"guid":1,"link":"","title":"","when":0}`, `{"guid":"`+long+`a","link":"","title":"","when":0}`) {
		if e, ok := rows.GetEntry(s, 5); ok || e != (api.Entry{}) {
			t.Errorf("P15.1: GetEntry(%.60q) = %v, %v", s, e, ok)
		}
	}
}

func TestSub(t *testing.T) {
	for folder, want := range map[string]string{"": `{"folder":""}`, "a-1": `{"folder":"a-1"}`, strings.Repeat("z", 20): `{"folder":"` + strings.Repeat("z", 20) + `"}`} {
		if s, e := rows.PutSub(folder); s != want || e != api.OK {
			t.Errorf("P15.1: PutSub(%q) = %s, %d", folder, s, e)
		}
		if back, ok := rows.GetSub(want); back != folder || !ok {
			t.Errorf("P15.4: GetSub(%s) = %q, %v", want, back, ok)
		}
	}
	for _, folder := range []string{"A", "a/b", "é", strings.Repeat("z", 21), " ", "\xff"} {
		if s, e := rows.PutSub(folder); s != "" || e != api.ErrForm {
			t.Errorf("P15.1: PutSub(%q) = %s, %d", folder, s, e)
		}
	}
	for _, s := range append(slices.Clone(none), `{"folder":"A"}`, `{"folder":null}`, `{"folder":"a" }`, `{"folder":"a","x":1}`, `{"folder":"a"}{}`) {
		if folder, ok := rows.GetSub(s); ok || folder != "" {
			t.Errorf("P15.1: GetSub(%.60q) = %q, %v", s, folder, ok)
		}
	}
}

func TestState(t *testing.T) {
	for read := -1; read <= 3; read++ {
		for star := -1; star <= 2; star++ {
			x := rows.State{Read: read, Star: star}
			may := read >= 0 && read <= 2 && star >= 0 && star <= 1 && read+star > 0
			row := `{"read":` + strconv.Itoa(read) + `,"star":` + strconv.Itoa(star) + `}`
			s, e := rows.PutState(x)
			if may && (s != row || e != api.OK) || !may && (s != "" || e != api.ErrForm) {
				t.Errorf("P15.1: PutState(%v) = %s, %d", x, s, e)
			}
			back, ok := rows.GetState(row)
			if ok != may || may && back != x || !may && back != (rows.State{}) {
				t.Errorf("P15.4: GetState(%s) = %v, %v", row, back, ok)
			}
		}
	}
	for _, s := range append(slices.Clone(none), `{"star":1,"read":1}`, `{"read":true,"star":1}`, `{"read":1,"star":1,"x":1}`, `{"read":1,"star":-0}`, `{"read":1,"star":"1"}`) {
		if x, ok := rows.GetState(s); ok || x != (rows.State{}) {
			t.Errorf("P15.1: GetState(%.60q) = %v, %v", s, x, ok)
		}
	}
	if s, e := rows.PutState(rows.State{Read: math.MinInt, Star: math.MaxInt}); s != "" || e != api.ErrForm {
		t.Errorf("P15.1: PutState: %s, %d", s, e)
	}
}

// marks tells marks of pairs of numbers.
func marks(l ...int) []rows.Mark {
	var m []rows.Mark
	for i := 0; i < len(l); i += 2 {
		m = append(m, rows.Mark{When: l[i], Upto: l[i+1]})
	}
	return m
}

var wrongMarks = [][]rows.Mark{marks(-1, 1), marks(great+1, 1), marks(0, 0), marks(0, -1), marks(0, 1000001), marks(5, 1, 5, 2), marks(5, 1, 6, 2), marks(6, 1, 5, 1), marks(6, 2, 5, 1), marks(math.MinInt, 1), marks(0, math.MaxInt),
	marks(9, 1, 8, 2, 7, 3, 6, 4, 5, 5, 4, 6, 3, 7, 2, 8, 1, 9)}

func TestMarks(t *testing.T) {
	full := marks(9, 1, 8, 2, 7, 3, 6, 4, 5, 5, 4, 6, 3, 7, 2, 8)
	for _, c := range []struct {
		l    []rows.Mark
		want string
	}{{nil, `{"marks":[]}`}, {marks(0, 1), `{"marks":[[0,1]]}`}, {marks(great, 1, 0, 1000000), `{"marks":[[1099511627776,1],[0,1000000]]}`}, {full, `{"marks":[[9,1],[8,2],[7,3],[6,4],[5,5],[4,6],[3,7],[2,8]]}`}} {
		if s, e := rows.PutMarks(c.l); s != c.want || e != api.OK {
			t.Errorf("P15.1: PutMarks(%v) = %s, %d", c.l, s, e)
		}
		if back, ok := rows.GetMarks(c.want); !slices.Equal(back, c.l) || !ok {
			t.Errorf("P15.4: GetMarks(%s) = %v, %v", c.want, back, ok)
		}
	}
	for _, l := range wrongMarks {
		if s, e := rows.PutMarks(l); s != "" || e != api.ErrForm {
			t.Errorf("P15.1: PutMarks(%v) = %s, %d", l, s, e)
		}
	}
	for _, s := range append(slices.Clone(none), `{"marks":[1]}`, `{"marks":[[1]]}`, `{"marks":[[1,2,3]]}`, `{"marks":[[]]}`, `{"marks":[["1",2]]}`, `{"marks":[[1,null]]}`, `{"marks":[[-1,1]]}`, `{"marks":[[5,1],[5,2]]}`, `{"marks":[[5,2],[4,2]]}`,
		`{"marks":[[1,0]]}`, `{"marks":[[1,2]],"x":1}`, `{"marks":[ [1,2]]}`, `{"marks":[[9,1],[8,2],[7,3],[6,4],[5,5],[4,6],[3,7],[2,8],[1,9]]}`, `{"marks":null}`, `{"marks":"[]"}`) {
		if l, ok := rows.GetMarks(s); ok || len(l) > 0 {
			t.Errorf("P15.1: GetMarks(%.60q) = %v, %v", s, l, ok)
		}
	}
}

func TestAdd(t *testing.T) {
	full := marks(90, 10, 80, 20, 70, 30, 60, 40, 50, 50, 40, 60, 30, 70, 20, 80)
	for i, c := range []struct {
		l    []rows.Mark
		m    rows.Mark
		want []rows.Mark
	}{
		{nil, rows.Mark{When: 0, Upto: 1}, marks(0, 1)}, {marks(100, 5), rows.Mark{When: 50, Upto: 10}, marks(100, 5, 50, 10)}, {marks(50, 5), rows.Mark{When: 100, Upto: 10}, marks(100, 10)}, {marks(50, 10), rows.Mark{When: 100, Upto: 5}, marks(100, 5, 50, 10)},
		{marks(50, 5), rows.Mark{When: 50, Upto: 5}, marks(50, 5)}, {marks(50, 5), rows.Mark{When: 50, Upto: 4}, marks(50, 5)}, {marks(50, 5), rows.Mark{When: 49, Upto: 5}, marks(50, 5)}, {marks(50, 5), rows.Mark{When: 50, Upto: 6}, marks(50, 6)}, {marks(50, 5), rows.Mark{When: 51, Upto: 5}, marks(51, 5)},
		{marks(9, 1, 5, 5, 1, 9), rows.Mark{When: 7, Upto: 3}, marks(9, 1, 7, 3, 5, 5, 1, 9)}, {marks(9, 1, 5, 5, 1, 9), rows.Mark{When: 6, Upto: 9}, marks(9, 1, 6, 9)}, {marks(9, 1, 5, 5, 1, 9), rows.Mark{When: 9, Upto: 9}, marks(9, 9)},
		{full, rows.Mark{When: 75, Upto: 20}, full}, {full, rows.Mark{When: 90, Upto: 11}, marks(90, 11, 80, 20, 70, 30, 60, 40, 50, 50, 40, 60, 30, 70, 20, 80)}, {full, rows.Mark{When: 80, Upto: 45}, marks(90, 10, 80, 45, 50, 50, 40, 60, 30, 70, 20, 80)},
		{full, rows.Mark{When: great, Upto: 1000000}, marks(great, 1000000)}, {full[:7], rows.Mark{When: 10, Upto: 90}, append(slices.Clone(full[:7]), rows.Mark{When: 10, Upto: 90})},
	} {
		kept := slices.Clone(c.l)
		l, e := rows.Add(c.l, c.m)
		if !slices.Equal(l, c.want) || e != api.OK {
			t.Errorf("P15.2: case %d: %v, %d; not %v", i, l, e, c.want)
		}
		if len(l) > 0 {
			l[0] = rows.Mark{When: 77, Upto: 77}
			_ = append(l, rows.Mark{When: 77, Upto: 77})
		}
		if !slices.Equal(c.l, kept) {
			t.Errorf("P15.3: case %d: what is handed in is changed", i)
		}
	}
	for i, m := range []rows.Mark{{When: 95, Upto: 5}, {When: 10, Upto: 90}, {When: 75, Upto: 25}} {
		if l, e := rows.Add(full, m); len(l) > 0 || e != api.ErrLimit {
			t.Errorf("P15.2: too many, case %d: %v, %d", i, l, e)
		}
	}
	for _, l := range wrongMarks {
		if l, e := rows.Add(l, rows.Mark{When: great, Upto: 1000000}); len(l) > 0 || e != api.ErrForm {
			t.Errorf("P15.2: Add to %v: %d", l, e)
		}
		if len(l) == 1 {
			if l, e := rows.Add(full, l[0]); len(l) > 0 || e != api.ErrForm {
				t.Errorf("P15.2: Add of %v: %d", l, e)
			}
		}
	}
	if l, e := rows.Add(marks(5, 5)[:0], rows.Mark{When: 1, Upto: 1}); !slices.Equal(l, marks(1, 1)) || e != api.OK {
		t.Errorf("P15.2: %v", l)
	}
}

func TestCovers(t *testing.T) {
	l := marks(100, 5, 50, 10)
	for _, c := range []struct {
		num, when int
		want      bool
	}{{0, 0, true}, {4, 100, true}, {4, 101, false}, {5, 100, false}, {5, 50, true}, {9, 50, true}, {9, 51, false}, {10, 0, false}, {10, 50, false}, {0, math.MaxInt, false}, {math.MaxInt, 0, false}} {
		if got := rows.Covers(l, c.num, c.when); got != c.want {
			t.Errorf("P15.2: Covers(%d, %d) = %v", c.num, c.when, got)
		}
	}
	if rows.Covers(nil, 0, 0) {
		t.Error("P15.2: no mark covers")
	}
}

// TestRandom adds marks at random: what one of them covered is covered.
func TestRandom(t *testing.T) {
	r := rand.New(rand.NewSource(18))
	for range 400 {
		var l, all []rows.Mark
		for range 12 {
			m := rows.Mark{When: r.Intn(15), Upto: 1 + r.Intn(15)}
			added, e := rows.Add(l, m)
			if e == api.ErrLimit {
				continue
			}
			l, all = added, append(all, m)
			row, e2 := rows.PutMarks(l)
			if back, ok := rows.GetMarks(row); e != api.OK || e2 != api.OK || !ok || !slices.Equal(back, l) {
				t.Fatalf("P15.2: %v, %d, %d", l, e, e2)
			}
			for num := range 16 {
				for when := range 16 {
					want := slices.ContainsFunc(all, func(m rows.Mark) bool { return num < m.Upto && when <= m.When })
					if rows.Covers(l, num, when) != want {
						t.Fatalf("P15.4: %v: %d, %d", l, num, when)
					}
				}
			}
		}
	}
}

func TestNewMemory(t *testing.T) {
	row := `{"marks":[[9,1],[8,2]]}`
	a, _ := rows.GetMarks(row)
	b, _ := rows.GetMarks(row)
	a[0].When = 77
	_ = append(a[:1], rows.Mark{When: 77, Upto: 77})
	if !slices.Equal(b, marks(9, 1, 8, 2)) {
		t.Error("P15.3: answers share memory")
	}
	l := marks(5, 5)
	rows.PutMarks(l)
	rows.Covers(l, 1, 1)
	x, _ := rows.Add(l, rows.Mark{When: 1, Upto: 1})
	l[0].When = 6
	if !slices.Equal(x, marks(5, 5)) {
		t.Error("P15.3: Add keeps what is handed in")
	}
}
