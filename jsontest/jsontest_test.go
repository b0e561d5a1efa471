package jsontest_test

import (
	"testing"

	"outlaw/api"
	"outlaw/jsontest"
)

func TestDifferent(t *testing.T) {
	known := map[string]bool{}
	for _, v := range jsontest.Different() {
		s := jsontest.Show(v)
		if known[s] {
			t.Errorf("%s is there twice", s)
		}
		known[s] = true
	}
}

// Each field, at each depth, is seen in what Show writes.
func TestShow(t *testing.T) {
	v := api.Json{Kind: 6, N: -1, Text: "a", Keys: []string{"b", "c d"}, Items: []api.Json{jsontest.List(jsontest.Text("("))}}
	if got := jsontest.Show(v); got != `6 -1 "a" "b" "c d" (5 0 "" (4 0 "(" ()))` {
		t.Error(got)
	}
}

// What stands in spare capacity is seen by ShowAll alone.
func TestShowAll(t *testing.T) {
	v := jsontest.Roomy(jsontest.List(jsontest.Object("a", jsontest.Null())))
	shown, all := jsontest.Show(v), jsontest.ShowAll(v)
	keys := v.Items[0].Keys
	keys[:2][1] = "changed"
	if jsontest.Show(v) != shown || jsontest.ShowAll(v) == all {
		t.Error("a key")
	}
	all = jsontest.ShowAll(v)
	items := v.Items[0].Items
	items[:2][1].N = 7
	if jsontest.Show(v) != shown || jsontest.ShowAll(v) == all {
		t.Error("a value")
	}
}

func TestApart(t *testing.T) {
	v := jsontest.Roomy(jsontest.Object("a b", jsontest.List(jsontest.Null()), jsontest.Object("c", jsontest.Null())))
	if !jsontest.Apart() || !jsontest.Apart(v) || !jsontest.Apart(v, jsontest.Roomy(v)) {
		t.Error("apart")
	}
	spare := jsontest.List()
	spare.Items = v.Items[2:2:3]
	for _, w := range []api.Json{
		v,
		v.Items[0],
		v.Items[1],
		{Keys: v.Keys[1:2:2]},
		{Keys: v.Items[1].Keys},
		jsontest.List(jsontest.Null(), v.Items[0]),
		spare,
	} {
		if jsontest.Apart(v, w) || jsontest.Apart(w, v) {
			t.Errorf("%s", jsontest.Show(w))
		}
	}
	if jsontest.Apart(jsontest.List(v.Items[0], v.Items[0])) {
		t.Error("within one value")
	}
}
