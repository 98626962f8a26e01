// Package build: objects of JSON, put together member by member.
package build

import "handbill/json"

// Object tells an object of members, whose names have to rise.
func Object(l ...json.Member) json.Value {
	return json.Value{Kind: json.Object, M: l}
}

// Text tells a member that is a text.
func Text(name, s string) json.Member {
	return json.Member{Name: name, V: json.Value{Kind: json.Text, S: s}}
}

// Number tells a member that is a number.
func Number(name string, n int) json.Member {
	return json.Member{Name: name, V: json.Value{Kind: json.Number, N: n}}
}

// Truth tells a member that is true or false.
func Truth(name string, on bool) json.Member {
	kind := json.False
	if on {
		kind = json.True
	}
	return json.Member{Name: name, V: json.Value{Kind: kind}}
}

// List tells a member that is a list.
func List(name string, l []json.Value) json.Member {
	return json.Member{Name: name, V: json.Value{Kind: json.List, L: l}}
}
