package build_test

import (
	"testing"

	"handbill/api"
	"handbill/build"
	"handbill/json"
)

func TestObject(t *testing.T) {
	l := []json.Value{build.Object(), {Kind: json.Null}}
	v := build.Object(build.List("a", l), build.Number("b", -1), build.Text("c", "x"), build.Truth("d", false), build.Truth("e", true), build.List("f", nil))
	if b, e := json.Print(v); string(b) != `{"a":[{},null],"b":-1,"c":"x","d":false,"e":true,"f":[]}` || e != api.OK {
		t.Errorf("%s, %d", b, e)
	}
}
