package json_test

import (
	other "encoding/json"
	"math/rand"
	"slices"
	"strconv"
	"strings"
	"testing"

	"handbill/api"
	"handbill/json"
)

const greatest = 1<<53 - 1

func null() json.Value                { return json.Value{Kind: json.Null} }
func number(n int) json.Value         { return json.Value{Kind: json.Number, N: n} }
func words(s string) json.Value       { return json.Value{Kind: json.Text, S: s} }
func list(l ...json.Value) json.Value { return json.Value{Kind: json.List, L: l} }
func object(l ...json.Member) json.Value {
	return json.Value{Kind: json.Object, M: l}
}

// nest tells a value of so many lists around one without parts.
func nest(depth int, inner json.Value) json.Value {
	for range depth {
		inner = list(inner)
	}
	return inner
}

func TestKinds(t *testing.T) {
	if json.Null != 1 || json.False != 2 || json.True != 3 || json.Number != 4 || json.Text != 5 || json.List != 6 || json.Object != 7 {
		t.Error("P4.1: the kinds")
	}
}

func TestMay(t *testing.T) {
	long := strings.Repeat("a", api.MaxText)
	deep := object(json.Member{Name: "a", V: null()})
	for range 62 {
		deep = object(json.Member{Name: "a", V: deep})
	}
	for i, v := range []json.Value{
		null(), {Kind: json.False}, {Kind: json.True}, number(0), number(greatest), number(-greatest), words(""), words("é"), words(long),
		list(), object(), list(null(), list()), object(json.Member{Name: "", V: null()}, json.Member{Name: "a", V: null()}, json.Member{Name: long, V: null()}),
		nest(63, null()), nest(63, list()), {Kind: json.Null, L: []json.Value{}, M: []json.Member{}}, deep,
	} {
		if !json.May(v) {
			t.Errorf("P4.1: value %d may be", i)
		}
		if b, e := json.Print(v); e != api.OK || len(b) == 0 {
			t.Errorf("P4.2: Print of value %d: %d", i, e)
		}
	}
	for i, v := range []json.Value{
		{}, {Kind: 8}, {Kind: -1}, {Kind: json.Null, N: 1}, {Kind: json.True, S: "a"}, {Kind: json.Text, N: 1}, {Kind: json.Number, S: "1"},
		number(greatest + 1), number(-greatest - 1), words("\xff"), words(long + "a"), {Kind: json.Text, L: []json.Value{null()}},
		{Kind: json.List, M: []json.Member{{Name: "a", V: null()}}}, {Kind: json.Object, L: []json.Value{null()}}, {Kind: json.List, N: 2}, {Kind: json.Object, S: "a"},
		list(null(), json.Value{}), object(json.Member{Name: "a"}), object(json.Member{Name: "\xff", V: null()}), object(json.Member{Name: long + "a", V: null()}),
		object(json.Member{Name: "b", V: null()}, json.Member{Name: "a", V: null()}), object(json.Member{Name: "a", V: null()}, json.Member{Name: "a", V: null()}),
		nest(64, null()), nest(64, list()), list(deep, list(deep)),
	} {
		if json.May(v) {
			t.Errorf("P4.1: wrong value %d may be", i)
		}
		if b, e := json.Print(v); e != api.ErrForm || len(b) > 0 {
			t.Errorf("P4.2: Print of wrong value %d: %s, %d", i, b, e)
		}
	}
}

func TestParseAndPrint(t *testing.T) {
	for text, want := range map[string]string{
		`{"b":1,"a":[true,null]}`: `{"a":[true,null],"b":1}`, "\t\n\r {} \n": `{}`, `[ ]`: `[]`, `[ 1 , -2 ]`: `[1,-2]`, `-0`: `0`, `0`: `0`, `[-0,-10]`: `[0,-10]`,
		`9007199254740991`: `9007199254740991`, `-9007199254740991`: `-9007199254740991`, `"\u00e9\/\n"`: `"é/\n"`, `false`: `false`,
		`{"":0,"\u0061":{"z":"","y":[]}}`: `{"":0,"a":{"y":[],"z":""}}`, `{"é":1,"z":2,"Z":3}`: `{"Z":3,"z":2,"é":1}`, ` "a" `: `"a"`,
		`{"a" : 1 , "b":2 }`: `{"a":1,"b":2}`, strings.Repeat("[", 64) + strings.Repeat("]", 64): strings.Repeat("[", 64) + strings.Repeat("]", 64),
		strings.Repeat("[", 63) + "1" + strings.Repeat("]", 63):                                 strings.Repeat("[", 63) + "1" + strings.Repeat("]", 63),
		strings.Repeat("[", 63) + "{ }" + strings.Repeat("]", 63):                               strings.Repeat("[", 63) + "{}" + strings.Repeat("]", 63),
		strings.Repeat("[", 30) + strings.Repeat("[],{},", 100) + "1" + strings.Repeat("]", 30): strings.Repeat("[", 30) + strings.Repeat("[],{},", 100) + "1" + strings.Repeat("]", 30),
		`{"a":{"a":1}}`: `{"a":{"a":1}}`, `[{"a":1},{"a":1}]`: `[{"a":1},{"a":1}]`,
	} {
		v, e := json.Parse([]byte(text))
		if e != api.OK || !json.May(v) {
			t.Errorf("P4.1: Parse(%s): %d", text, e)
			continue
		}
		if b, e := json.Print(v); string(b) != want || e != api.OK {
			t.Errorf("P4.2: %s is printed %s, %d", text, b, e)
		}
	}
	v, _ := json.Parse([]byte(`{"b":[1,"x"],"a":false}`))
	want := object(json.Member{Name: "a", V: json.Value{Kind: json.False}}, json.Member{Name: "b", V: list(number(1), words("x"))})
	if !json.Same(v, want) {
		t.Errorf("P4.1: %v", v)
	}
}

func TestParseWrong(t *testing.T) {
	open := strings.Repeat("[", 64)
	long := strings.Repeat("a", api.MaxText+1)
	for text, want := range map[string]api.Errno{
		strings.Repeat(" ", api.MaxDoc+1): api.ErrLong, strings.Repeat("x", api.MaxDoc+1): api.ErrLong, "1" + strings.Repeat(" ", api.MaxDoc): api.ErrLong,
		"": api.ErrShort, " \n": api.ErrShort, "t": api.ErrShort, "tru": api.ErrShort, "[nul": api.ErrShort, "fals": api.ErrShort, "-": api.ErrShort, "[": api.ErrShort, "[1": api.ErrShort,
		"[1,": api.ErrShort, "[1 ": api.ErrShort, "{": api.ErrShort, `{"a"`: api.ErrShort, `{"a":`: api.ErrShort, `{"a":1`: api.ErrShort, `{"a":1,`: api.ErrShort, `{"a`: api.ErrShort,
		`"a`: api.ErrShort, `"\u12`: api.ErrShort, `["\ud800`: api.ErrShort, "{ ": api.ErrShort, `{"a" `: api.ErrShort, `{"a":1, `: api.ErrShort,
		"[tru,1]": api.ErrForm, "[nul]": api.ErrForm, `{"a":fals}`: api.ErrForm, "90071992547409910": api.ErrRange, "-90071992547409919": api.ErrRange,
		"x": api.ErrForm, "trux": api.ErrForm, "True": api.ErrForm, "nulL": api.ErrForm, "+1": api.ErrForm, "01": api.ErrForm, "-01": api.ErrForm, "00": api.ErrForm, "-a": api.ErrForm, "--1": api.ErrForm,
		"1.5": api.ErrForm, "1e5": api.ErrForm, "1E5": api.ErrForm, "0.": api.ErrForm, "-0e1": api.ErrForm, ".5": api.ErrForm, "1.": api.ErrForm, "[1.5": api.ErrForm,
		"99999999999999999999.5": api.ErrForm, "99999999999999999999e": api.ErrForm, "0123456789012345678901": api.ErrForm, "9007199254740992E0": api.ErrForm,
		"1 2": api.ErrForm, "{} {": api.ErrForm, "[]]": api.ErrForm, "nullx": api.ErrForm, "1,": api.ErrForm, "1\x00": api.ErrForm, "\xef\xbb\xbf1": api.ErrForm, "\v1": api.ErrForm, "\u00a01": api.ErrForm,
		"[,": api.ErrForm, "[1,]": api.ErrForm, "[1 2]": api.ErrForm, "[}": api.ErrForm, "[1}": api.ErrForm, "]": api.ErrForm, "{]": api.ErrForm, "{1": api.ErrForm, "{,": api.ErrForm, `{"a",`: api.ErrForm,
		`{"a" 1`: api.ErrForm, `{"a":,`: api.ErrForm, `{"a":1]`: api.ErrForm, `{"a":1,}`: api.ErrForm, `{"a":1 "b"`: api.ErrForm, `{"a":}`: api.ErrForm, `{'a':1}`: api.ErrForm, `{"a"::1}`: api.ErrForm,
		`{"a":1,"a":2}`: api.ErrForm, `{"a":1,"b":2,"\u0061"`: api.ErrForm, `{"a":1,"a" x`: api.ErrForm, `{"":1,"":1}`: api.ErrForm,
		"\"\n\"": api.ErrForm, `"\x"`: api.ErrForm, "\"\xff\"": api.ErrForm, `"\ud800"`: api.ErrForm, "{\"\xff": api.ErrForm, "\"\xc3": api.ErrForm,
		"9007199254740992": api.ErrRange, "-9007199254740992": api.ErrRange, "99999999999999999999": api.ErrRange, "[9007199254740992": api.ErrRange, "18446744073709551617": api.ErrRange,
		"[9007199254740992,x": api.ErrRange, strings.Repeat("9", 5000): api.ErrRange, "9007199254740992x": api.ErrRange,
		open + "[": api.ErrDepth, open + "1": api.ErrDepth, open + " {": api.ErrDepth, open + `"`: api.ErrDepth, open + "-": api.ErrDepth, open + "t": api.ErrDepth, open + "f": api.ErrDepth,
		open + "n": api.ErrDepth, open + "9": api.ErrDepth, open + "0": api.ErrDepth, open + "nx": api.ErrDepth, open + "x": api.ErrForm, open + ",": api.ErrForm, open: api.ErrShort, open + "}": api.ErrForm,
		open[:63] + `{"a":1}`: api.ErrDepth, open[:63] + `{"a":x`: api.ErrForm, open[:63] + `{"a":`: api.ErrShort, open[:63] + `{1`: api.ErrForm, strings.Repeat(`{"a":`, 65): api.ErrDepth,
		strings.Repeat("[", 5000): api.ErrDepth, open[:63] + "[],": api.ErrShort, open[:63] + "[],[1": api.ErrDepth,
		`"` + long + `"`: api.ErrLong, `["` + long + `",x`: api.ErrLong, `{"` + long + `"x`: api.ErrLong, `"` + long: api.ErrShort, `"` + long + "\n": api.ErrForm, `{"` + long: api.ErrShort,
	} {
		v, e := json.Parse([]byte(text))
		if e != want || !json.Same(v, json.Value{}) {
			t.Errorf("P4.1: Parse(%.40q) = %v, %d; not %d", text, v.Kind, e, want)
		}
	}
	if v, e := json.Parse([]byte(`"` + strings.Repeat("\\n", api.MaxText) + `"`)); e != api.OK || len(v.S) != api.MaxText {
		t.Errorf("P4.1: a text of MaxText bytes: %d", e)
	}
	if _, e := json.Parse([]byte("1" + strings.Repeat(" ", api.MaxDoc-1))); e != api.OK {
		t.Errorf("P4.1: a text of MaxDoc bytes: %d", e)
	}
}

// TestCut cuts a text at each place: it ends too early.
func TestCut(t *testing.T) {
	text := ` {"a":[true,false,null,-12,"x\u00e9\ud83d\ude00"], "b" : {"c":{}}}`
	for n := range len(text) {
		if v, e := json.Parse([]byte(text[:n])); e != api.ErrShort || v.Kind != 0 {
			t.Errorf("P4.1: %s: %d", text[:n], e)
		}
	}
}

func TestSame(t *testing.T) {
	l := []json.Value{
		{}, null(), {Kind: 2}, number(0), number(1), words(""), words("a"), list(), list(null()), list(null(), null()), list(number(1)), object(),
		object(json.Member{Name: "a", V: null()}), object(json.Member{Name: "b", V: null()}), object(json.Member{Name: "a", V: number(1)}), {Kind: json.Null, N: 1},
		{Kind: json.Null, S: "a"}, {Kind: json.Null, L: []json.Value{null()}}, {Kind: json.Null, M: []json.Member{{}}},
		object(json.Member{Name: "a", V: list(list())}), object(json.Member{Name: "a", V: list(list(list()))}),
		object(json.Member{Name: "b"}, json.Member{Name: "a"}), object(json.Member{Name: "a"}, json.Member{Name: "b"}),
	}
	for i, a := range l {
		for j, b := range l {
			if json.Same(a, json.Copy(b)) != (i == j) {
				t.Errorf("P4.2: Same of %d and %d", i, j)
			}
		}
	}
	if !json.Same(json.Value{Kind: 6, L: []json.Value{}, M: []json.Member{}}, json.Value{Kind: 6}) {
		t.Error("P0.4: nil and the empty list are the same")
	}
}

func TestGetAndMembers(t *testing.T) {
	v := object(json.Member{Name: "b", V: number(1)}, json.Member{Name: "a", V: words("x")}, json.Member{Name: "b", V: number(2)})
	if got, ok := json.Get(v, "b"); !ok || !json.Same(got, number(1)) {
		t.Errorf("P4.2: the first one: %v, %v", got, ok)
	}
	if got, ok := json.Get(v, "a"); !ok || !json.Same(got, words("x")) {
		t.Errorf("P4.2: %v, %v", got, ok)
	}
	for i, c := range []struct {
		v    json.Value
		name string
	}{{v, "c"}, {v, ""}, {list(), "a"}, {json.Value{Kind: json.List, M: v.M}, "a"}, {json.Value{}, "a"}, {json.Value{M: v.M}, "a"}} {
		if got, ok := json.Get(c.v, c.name); ok || !json.Same(got, json.Value{}) {
			t.Errorf("P4.2: Get, case %d: %v, %v", i, got, ok)
		}
	}
	s := json.Members(v)
	for range 2 {
		var names []string
		for name, part := range s {
			names = append(names, name+strconv.Itoa(part.N))
		}
		if !slices.Equal(names, []string{"b1", "a0", "b2"}) {
			t.Errorf("P4.2: Members: %v", names)
		}
	}
	for name := range s {
		if name != "b" {
			t.Error("P4.2: Members, left early")
		}
		break
	}
	for _, v := range []json.Value{{}, list(null()), {Kind: json.Text, M: v.M}} {
		none := json.Members(v)
		if none == nil {
			t.Fatal("P4.2: Members are nil")
		}
		for range none {
			t.Error("P4.2: Members of what is no object")
		}
	}
}

func TestNewMemory(t *testing.T) {
	make1 := func() json.Value {
		return object(json.Member{Name: "a", V: list(number(1), list(number(2)))}, json.Member{Name: "b", V: object(json.Member{Name: "c", V: list(number(3))})})
	}
	spoil := func(v json.Value) {
		v.M[0].V.L[1].L[0].N = 9
		v.M[0].V.L[0] = null()
		v.M[1].V.M[0].V.L[0].N = 9
		v.M[1].Name = "z"
	}
	v := make1()
	c := json.Copy(v)
	s := json.Members(v)
	got, _ := json.Get(v, "a")
	got.L[1].L[0].N = 7
	got.L[0].N = 7
	if !json.Same(v, make1()) {
		t.Error("P4.3: what Get tells shares memory")
	}
	for _, part := range s {
		if len(part.L) > 0 {
			part.L[0].N = 8
		} else {
			part.M[0].Name = "z"
		}
	}
	if !json.Same(v, make1()) {
		t.Error("P4.3: what Members tell shares memory")
	}
	spoil(v)
	if !json.Same(c, make1()) {
		t.Error("P4.3: a Copy shares memory")
	}
	for name, part := range s {
		if want, _ := json.Get(make1(), name); !json.Same(part, want) {
			t.Errorf("P4.3: Members keep what was handed in: %s", name)
		}
	}
	b := []byte(`{"b":[1,[2]],"a":["x"]}`)
	kept := string(b)
	v1, _ := json.Parse(b)
	v2, _ := json.Parse(b)
	if string(b) != kept {
		t.Error("P4.3: Parse changes what is handed in")
	}
	copy(b, strings.Repeat("x", len(b)))
	_ = append(v1.M[1].V.L, number(5))
	_ = append(v1.M[0].V.L, number(5))
	v1.M[1].V.L[1].L[0].N = 77
	if p, _ := json.Print(v2); string(p) != `{"a":["x"],"b":[1,[2]]}` {
		t.Errorf("P4.3: Parse's answers share memory: %s", p)
	}
}

// TestRandom holds Parse against the library's, which is less strict.
func TestRandom(t *testing.T) {
	r := rand.New(rand.NewSource(6))
	parts := []string{"{", "}", "[", "]", ",", ":", `"a"`, `"b"`, `"\n"`, "1", "-2", "0", "true", "false", "null", " ", "1.5", `""`, "é", `"é"`}
	for range 60000 {
		var text string
		for range 1 + r.Intn(9) {
			text += parts[r.Intn(len(parts))]
		}
		v, e := json.Parse([]byte(text))
		if e == api.OK {
			b, _ := json.Print(v)
			again, e2 := json.Parse(b)
			if !other.Valid([]byte(text)) || e2 != api.OK || !json.Same(v, again) {
				t.Fatalf("P4.4: %s: %s, %d", text, b, e2)
			}
			var x, y any
			other.Unmarshal([]byte(text), &x)
			other.Unmarshal(b, &y)
			bx, _ := other.Marshal(x)
			by, _ := other.Marshal(y)
			if string(bx) != string(by) {
				t.Fatalf("P4.1: %s is read as %s", text, b)
			}
		} else if other.Valid([]byte(text)) && !strings.Contains(text, ".") && strings.Count(text, `"a"`) < 2 && strings.Count(text, `"b"`) < 2 && strings.Count(text, `"é"`) < 2 &&
			strings.Count(text, `""`) < 2 && strings.Count(text, `"\n"`) < 2 {
			t.Fatalf("P4.1: %s: %d", text, e)
		}
	}
}

func TestBack(t *testing.T) {
	r := rand.New(rand.NewSource(7))
	for range 2000 {
		v := random(r, 5)
		b, e := json.Print(v)
		if e != api.OK || !json.May(v) {
			t.Fatalf("P4.2: %v: %d", v, e)
		}
		if len(b) > api.MaxDoc {
			continue
		}
		if back, e := json.Parse(b); e != api.OK || !json.Same(back, v) {
			t.Fatalf("P4.4: %s: %v, %d", b, back, e)
		}
	}
}

func random(r *rand.Rand, depth int) json.Value {
	kind := 1 + r.Intn(7)
	if depth == 0 {
		kind = 1 + r.Intn(5)
	}
	v := json.Value{Kind: kind}
	switch kind {
	case json.Number:
		v.N = r.Intn(2*greatest+1) - greatest
	case json.Text:
		v.S = strings.Repeat("ä\"\x01", r.Intn(4))
	case json.List:
		for range r.Intn(4) {
			v.L = append(v.L, random(r, depth-1))
		}
	case json.Object:
		for i := range r.Intn(4) {
			v.M = append(v.M, json.Member{Name: strings.Repeat("n", i) + string(rune('a'+r.Intn(3))), V: random(r, depth-1)})
		}
		slices.SortFunc(v.M, func(a, b json.Member) int { return strings.Compare(a.Name, b.Name) })
	}
	return v
}
