package rows

import (
	"slices"

	"handbill/api"
	"handbill/build"
	"handbill/json"
)

const maxUpto = 1000000

// Mark says that entries with a number below Upto and a time not above When are read.
type Mark struct {
	When, Upto int
}

func markMay(m Mark) bool { return timeMay(m.When) && m.Upto >= 1 && m.Upto <= maxUpto }

// marksMay tells whether marks may be: none of them dominates another one.
func marksMay(l []Mark) bool {
	for i, m := range l {
		if !markMay(m) || i > 0 && (m.When >= l[i-1].When || m.Upto <= l[i-1].Upto) {
			return false
		}
	}
	return len(l) <= api.MaxMarks
}

// PutMarks tells the row of marks.
func PutMarks(l []Mark) (string, api.Errno) {
	if !marksMay(l) {
		return "", api.ErrForm
	}
	var all []json.Value
	for _, m := range l {
		all = append(all, json.Value{Kind: json.List, L: []json.Value{{Kind: json.Number, N: m.When}, {Kind: json.Number, N: m.Upto}}})
	}
	return object(build.List("marks", all))
}

// GetMarks tells the marks whose row it is.
func GetMarks(s string) ([]Mark, bool) {
	v, _ := json.Get(parse(s), "marks")
	var l []Mark
	for _, m := range v.L {
		if len(m.L) != 2 {
			return nil, false
		}
		l = append(l, Mark{m.L[0].N, m.L[1].N})
	}
	return ifRow(s, l, PutMarks)
}

// dominates tells whether a says all that b says.
func dominates(a, b Mark) bool { return a.When >= b.When && a.Upto >= b.Upto }

// Add tells marks with one more, without those that say nothing of their own.
func Add(l []Mark, m Mark) ([]Mark, api.Errno) {
	if !marksMay(l) || !markMay(m) {
		return nil, api.ErrForm
	}
	if slices.ContainsFunc(l, func(x Mark) bool { return dominates(x, m) }) {
		return slices.Clone(l), api.OK
	}
	added := []Mark{m}
	for _, x := range l {
		if !dominates(m, x) {
			added = append(added, x)
		}
	}
	if len(added) > api.MaxMarks {
		return nil, api.ErrLimit
	}
	slices.SortFunc(added, func(a, b Mark) int { return b.When - a.When })
	return added, api.OK
}

// Covers tells whether marks say that an entry of a number and a time is read.
func Covers(l []Mark, num, when int) bool {
	return slices.ContainsFunc(l, func(m Mark) bool { return m.When >= when && m.Upto > num })
}
