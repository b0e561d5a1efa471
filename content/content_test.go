package content_test

import (
	"fmt"
	"slices"
	"testing"

	"outlaw/api"
	"outlaw/content"
	"outlaw/json"
	"outlaw/jsontest"
)

// The values of the tests, by short names.
var (
	null   = jsontest.Null
	truth  = jsontest.Truth
	number = jsontest.Number
	text   = jsontest.Text
	list   = jsontest.List
	object = jsontest.Object
)

const most = 9007199254740991

// parse returns the value that s is the text of.
func parse(s string) api.Json {
	v, err := json.Parse(s)
	if err != api.OK {
		panic(fmt.Sprintf("%s: %d", s, err))
	}
	return v
}

// show writes all fields of levels, a rule or an Acl, where nil and empty
// lists are the same.
func show(x any) string { return fmt.Sprintf("%q", x) }

// rich returns valid levels that use all fields.
func rich() api.Levels {
	return api.Levels{
		Users:        []api.UserLevel{{User: "@a:B", N: 100}, {User: "@a:b", N: -1}},
		Events:       []api.TypeLevel{{Type: "", N: -2}, {Type: "m.room.create", N: most}, {Type: "é\n", N: 0}},
		UsersDefault: 1, EventsDefault: 2, StateDefault: 3, Ban: 4, Kick: 5, Redact: 6, Invite: -most,
	}
}

// different returns levels of which no two are equal, many of them not valid.
func different() []api.Levels {
	all := []api.Levels{{}, rich()}
	for _, change := range []func(l *api.Levels){
		func(l *api.Levels) { l.UsersDefault = 50 },
		func(l *api.Levels) { l.EventsDefault = 50 },
		func(l *api.Levels) { l.StateDefault = 50 },
		func(l *api.Levels) { l.Ban = 50 },
		func(l *api.Levels) { l.Kick = 50 },
		func(l *api.Levels) { l.Redact = 50 },
		func(l *api.Levels) { l.Invite = 50 },
		func(l *api.Levels) { l.Invite = 1 << 62 },
		func(l *api.Levels) { l.Users = []api.UserLevel{{}} },
		func(l *api.Levels) { l.Users = []api.UserLevel{{}, {}} },
		func(l *api.Levels) { l.Users = []api.UserLevel{{User: "@a:b"}} },
		func(l *api.Levels) { l.Users = []api.UserLevel{{User: "@a:b", N: 1}} },
		func(l *api.Levels) { l.Users = []api.UserLevel{{User: "@a:b"}, {User: "\xff"}} },
		func(l *api.Levels) { l.Users = []api.UserLevel{{User: "\xff"}, {User: "@a:b"}} },
		func(l *api.Levels) { l.Events = []api.TypeLevel{{}} },
		func(l *api.Levels) { l.Events = []api.TypeLevel{{}, {}} },
		func(l *api.Levels) { l.Events = []api.TypeLevel{{Type: "@a:b"}} },
		func(l *api.Levels) { l.Events = []api.TypeLevel{{Type: "@a:b", N: 1}} },
		func(l *api.Levels) { l.Events = []api.TypeLevel{{Type: "@a:b"}, {Type: "\xff"}} },
		func(l *api.Levels) { l.Events = []api.TypeLevel{{Type: "\xff"}, {Type: "@a:b"}} },
	} {
		for _, l := range []api.Levels{{}, rich()} {
			change(&l)
			all = append(all, l)
		}
	}
	return all
}

// roomyLevels returns a copy of l in which both lists have spare capacity, filled.
func roomyLevels(l api.Levels) api.Levels {
	l.Users = append(slices.Clip(l.Users), api.UserLevel{User: "@spare:s"}, api.UserLevel{User: "@more:s"})[:len(l.Users)]
	l.Events = append(slices.Clip(l.Events), api.TypeLevel{Type: "spare"}, api.TypeLevel{Type: "more"})[:len(l.Events)]
	return l
}

// showRoom is show with the spare capacity of the lists.
func showRoom(l api.Levels) string {
	return show(l) + show(l.Users[:cap(l.Users)]) + show(l.Events[:cap(l.Events)])
}

// The numbers that the document gives.
func TestNumbers(t *testing.T) {
	if api.MostEntity != 255 || api.MostType != 128 || api.MostNumber != most || api.MostNodes != 400 {
		t.Error("limits")
	}
	if api.MemberNone != 0 || api.MemberInvite != 1 || api.MemberJoin != 2 || api.MemberLeave != 3 || api.MemberBan != 4 {
		t.Error("memberships")
	}
}

// P6.3: SameLevels tells each field, of any two levels.
func TestSameLevels(t *testing.T) {
	all := different()
	for i, a := range all {
		for j, b := range all {
			if content.SameLevels(a, roomyLevels(b)) != (i == j) {
				t.Errorf("%s and %s: %v", show(a), show(b), i != j)
			}
		}
	}
}

// Rule 4: a nil slice and an empty one are the same.
func TestSameLevelsOfNone(t *testing.T) {
	a := api.Levels{Ban: 1}
	b := api.Levels{Ban: 1, Users: []api.UserLevel{}, Events: make([]api.TypeLevel, 0, 3)}
	if !content.SameLevels(a, b) || !content.SameLevels(b, a) {
		t.Error("not the same")
	}
}

// Rule 3: the levels that are compared stay as they are.
func TestSameLevelsLeavesArguments(t *testing.T) {
	for _, l := range different() {
		a, b := roomyLevels(l), roomyLevels(rich())
		beforeA, beforeB := showRoom(a), showRoom(b)
		content.SameLevels(a, b)
		if showRoom(a) != beforeA || showRoom(b) != beforeB {
			t.Errorf("%s: changed", beforeA)
		}
	}
}
