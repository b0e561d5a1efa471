package content_test

import (
	"fmt"
	"math"
	"slices"
	"strings"
	"testing"

	"outlaw/api"
	"outlaw/canon"
	"outlaw/content"
	"outlaw/json"
	"outlaw/jsontest"
)

// bodyIs checks that what was made is the canonical value with these bytes, or
// nothing if there are none.
func bodyIs(t *testing.T, want string, body api.Json, is bool) {
	t.Helper()
	if want == "" {
		if is || jsontest.Show(body) != jsontest.Show(api.Json{}) {
			t.Errorf("%.300s %v, want nothing", jsontest.Show(body), is)
		}
		return
	}
	if !is || jsontest.Show(body) != jsontest.Show(parse(want)) || !canon.Is(want) {
		t.Errorf("%.300s %v, want %.300s", jsontest.Show(body), is, want)
	}
}

func levelsBodyIs(t *testing.T, l api.Levels, want string) {
	t.Helper()
	body, is := content.LevelsBody(l)
	bodyIs(t, want, body, is)
	if is {
		levelsAre(t, body, l, true)
	}
}

func ruleBodyIs(t *testing.T, r api.RuleBody, want string) {
	t.Helper()
	body, is := content.RuleBody(r)
	bodyIs(t, want, body, is)
	if is {
		ruleIs(t, body, r, true)
	}
}

func aclBodyIs(t *testing.T, a api.Acl, want string) {
	t.Helper()
	body, is := content.AclBody(a)
	bodyIs(t, want, body, is)
	if is {
		aclIs(t, body, a, true)
	}
}

func createBodyIs(t *testing.T, creator, want string) {
	t.Helper()
	body, is := content.CreateBody(creator)
	bodyIs(t, want, body, is)
	if is {
		creatorIs(t, body, creator)
	}
}

// P6.3 and P6.4: memberships.
func TestMemberBody(t *testing.T) {
	for membership, name := range map[int]string{api.MemberInvite: "invite", api.MemberJoin: "join", api.MemberLeave: "leave", api.MemberBan: "ban"} {
		body, is := content.MemberBody(membership)
		bodyIs(t, `{"membership":"`+name+`"}`, body, is)
		memberIs(t, body, membership)
	}
	for _, membership := range []int{0, 5, 6, -1, -4, 1 << 32, math.MaxInt, math.MinInt} {
		body, is := content.MemberBody(membership)
		bodyIs(t, "", body, is)
	}
}

// P6.3 and P6.4: creators.
func TestCreateBody(t *testing.T) {
	for _, user := range []string{"@a:b", "@a=/+_.-:B.org:80", "@" + strings.Repeat("a", 252) + ":s"} {
		createBodyIs(t, user, `{"creator":"`+user+`"}`)
	}
	for _, s := range []string{"", "@", "@a", "a:b", "@A:b", "!a:b", "$a", "b", "@a:b ", "\xff", "@" + strings.Repeat("a", 253) + ":s"} {
		createBodyIs(t, s, "")
	}
}

// P6.3 and P6.4: rules, with a reason only if there is one.
func TestRuleBody(t *testing.T) {
	ruleBodyIs(t, api.RuleBody{Entity: "@x:*", Recommendation: "m.ban"}, `{"entity":"@x:*","recommendation":"m.ban"}`)
	ruleBodyIs(t, api.RuleBody{Entity: "\n", Recommendation: " ", Reason: "é"}, `{"entity":"\n","reason":"é","recommendation":" "}`)
	for _, letter := range []string{"a", "\x00", "é"} {
		some := func(n int) string { return strings.Repeat(letter, n/len(letter)) }
		literal := func(n int) string { return strings.ReplaceAll(some(n), "\x00", `\u0000`) }
		ruleBodyIs(t, api.RuleBody{Entity: some(255), Recommendation: some(128), Reason: some(255)},
			`{"entity":"`+literal(255)+`","reason":"`+literal(255)+`","recommendation":"`+literal(128)+`"}`)
		ruleBodyIs(t, api.RuleBody{Entity: some(256), Recommendation: "r"}, "")
		ruleBodyIs(t, api.RuleBody{Entity: "e", Recommendation: some(130)}, "")
		ruleBodyIs(t, api.RuleBody{Entity: "e", Recommendation: "r", Reason: some(256)}, "")
	}
	for _, r := range []api.RuleBody{
		{}, {Entity: "e"}, {Recommendation: "r"}, {Reason: "r"}, {Entity: "e", Reason: "r"}, {Recommendation: "r", Reason: "r"},
		{Entity: "e", Recommendation: strings.Repeat("r", 129)},
		{Entity: "\xff", Recommendation: "r"}, {Entity: "e", Recommendation: "\xff"}, {Entity: "e", Recommendation: "r", Reason: "\xff"},
		{Entity: "e\xed\xa0\x80", Recommendation: "r"}, {Entity: "e", Recommendation: "r\xc3"},
		{Entity: strings.Repeat("a", 1<<24), Recommendation: "r"},
	} {
		ruleBodyIs(t, r, "")
	}
}

// P6.3 and P6.4: both lists of an Acl are there, in their order.
func TestAclBody(t *testing.T) {
	long := strings.Repeat("a", 255)
	aclBodyIs(t, api.Acl{}, `{"allow":[],"deny":[]}`)
	aclBodyIs(t, api.Acl{Allow: []string{}, Deny: []string{"b", "", "a", "b"}}, `{"allow":[],"deny":["b","","a","b"]}`)
	aclBodyIs(t, api.Acl{Allow: []string{"*", "é"}}, `{"allow":["*","é"],"deny":[]}`)
	aclBodyIs(t, api.Acl{Allow: []string{long}, Deny: []string{long}}, `{"allow":["`+long+`"],"deny":["`+long+`"]}`)
	for _, bad := range []string{long + "a", strings.Repeat("é", 128), "\xff", "a\xc3", "\xed\xa0\x80"} {
		aclBodyIs(t, api.Acl{Allow: []string{bad}}, "")
		aclBodyIs(t, api.Acl{Deny: []string{bad}}, "")
		aclBodyIs(t, api.Acl{Allow: []string{"*"}, Deny: []string{"a", bad}}, "")
		aclBodyIs(t, api.Acl{Allow: []string{"a", bad}, Deny: []string{"*"}}, "")
	}
}

// P6.3: as many elements of an Acl as there may be, and more.
func TestMostOfAcl(t *testing.T) {
	for _, n := range []int{0, 1, 200, 396, 397} {
		a := api.Acl{Allow: slices.Repeat([]string{"x"}, n), Deny: slices.Repeat([]string{"y"}, 397-n)}
		body, is := content.AclBody(a)
		if !is || json.Count(body) != 400 {
			t.Errorf("%d: %v", n, is)
		}
		aclIs(t, body, a, true)
		more := a
		more.Allow = append(slices.Clone(a.Allow), "x")
		aclBodyIs(t, more, "")
		more = a
		more.Deny = append(slices.Clone(a.Deny), "y")
		aclBodyIs(t, more, "")
	}
	for _, n := range []int{398, 399, 400, 401, 402, 1000, 1 << 24} {
		aclBodyIs(t, api.Acl{Allow: make([]string, n)}, "")
		aclBodyIs(t, api.Acl{Deny: make([]string, n)}, "")
	}
}

// P6.3 and P6.4: the body of levels has all the keys, also those with defaults.
func TestLevelsBody(t *testing.T) {
	levelsBodyIs(t, api.Levels{}, `{"ban":0,"events":{},"events_default":0,"invite":0,"kick":0,"redact":0,"state_default":0,"users":{},"users_default":0}`)
	levelsBodyIs(t, initially(), `{"ban":50,"events":{},"events_default":0,"invite":0,"kick":50,"redact":50,"state_default":50,"users":{},"users_default":0}`)
	levelsBodyIs(t, rich(), `{"ban":4,"events":{"":-2,"m.room.create":9007199254740991,"é\n":0},"events_default":2,"invite":-9007199254740991,"kick":5,"redact":6,"state_default":3,"users":{"@a:B":100,"@a:b":-1},"users_default":1}`)
}

// P6.3: numbers that are in range, and others, wherever they stand.
func TestLevelsBodyNumbers(t *testing.T) {
	l := rich()
	places := []*int64{
		&l.UsersDefault, &l.EventsDefault, &l.StateDefault, &l.Ban, &l.Kick, &l.Redact, &l.Invite,
		&l.Users[0].N, &l.Users[1].N, &l.Events[0].N, &l.Events[1].N, &l.Events[2].N,
	}
	for i, n := range places {
		was := *n
		for _, x := range []int64{most, -most, 0, 1 << 31, -1 << 32} {
			*n = x
			if body, is := content.LevelsBody(l); !is {
				t.Errorf("%d: %d", i, x)
			} else {
				levelsAre(t, body, l, true)
			}
		}
		for _, x := range []int64{most + 1, -most - 1, math.MaxInt64, math.MinInt64} {
			*n = x
			levelsBodyIs(t, l, "")
		}
		*n = was
	}
}

// P6.3: lists that ascend, and others.
func TestLevelsBodyLists(t *testing.T) {
	for _, x := range []struct {
		texts         string
		users, events bool
	}{
		{"", true, true},
		{"@a:s", true, true},
		{"@a:S @a:s @b:s @c.:s @c:s", true, true},
		{"@a:s @a:s", false, false},
		{"@b:s @a:s", false, false},
		{"@a:s @b:s @b:s", false, false},
		{"@a:s @c:s @b:s", false, false},
		{"@a:s @b:s @a:s", false, false},
		{"@a:s @a:S", false, false},
		{"a b", false, true},
		{"@a:s a", false, true},
		{"!r:s @a:s", false, true},
		{"A a aa b é", false, true},
		{"a B", false, false},
		{"aa a", false, false},
		{"\xff", false, false},
		{"@a:s @a:s\xff", false, false},
		{"m.room.create m.room.create", false, false},
	} {
		var users, events api.Levels
		for i, s := range strings.Fields(x.texts) {
			users.Users = append(users.Users, api.UserLevel{User: s, N: int64(i)})
			events.Events = append(events.Events, api.TypeLevel{Type: s, N: int64(i)})
		}
		if body, is := content.LevelsBody(users); is != x.users || !is && body.Kind != 0 {
			t.Errorf("%q: users %v", x.texts, is)
		} else if is {
			levelsAre(t, body, users, true)
		}
		if body, is := content.LevelsBody(events); is != x.events || !is && body.Kind != 0 {
			t.Errorf("%q: events %v", x.texts, is)
		} else if is {
			levelsAre(t, body, events, true)
		}
	}
	levelsBodyIs(t, api.Levels{Users: []api.UserLevel{{}}}, "")
	levelsBodyIs(t, api.Levels{Events: []api.TypeLevel{{}, {}}}, "")
	levelsBodyIs(t, api.Levels{Events: []api.TypeLevel{{Type: "a"}, {}}}, "")
}

// P6.3: as many users and types as there may be, and more.
func TestMostOfLevels(t *testing.T) {
	some := func(users, events int) (l api.Levels) {
		for i := range users {
			l.Users = append(l.Users, api.UserLevel{User: fmt.Sprintf("@%08d:s", i), N: int64(i)})
		}
		for i := range events {
			l.Events = append(l.Events, api.TypeLevel{Type: fmt.Sprintf("%08d", i), N: int64(-i)})
		}
		return l
	}
	for _, n := range []int{0, 1, 200, 389, 390} {
		l := some(n, 390-n)
		body, is := content.LevelsBody(l)
		if !is || json.Count(body) != 400 {
			t.Errorf("%d: %v", n, is)
		}
		levelsAre(t, body, l, true)
		levelsBodyIs(t, some(n+1, 390-n), "")
		levelsBodyIs(t, some(n, 391-n), "")
	}
	for _, n := range []int{391, 399, 400, 401, 402, 1000, 1 << 20} {
		levelsBodyIs(t, some(n, 0), "")
		levelsBodyIs(t, some(0, n), "")
	}
}

// Rule 3: what was made is new memory, and what it was made of stays as it is.
func TestMadeIsNew(t *testing.T) {
	l := roomyLevels(rich())
	a := api.Acl{Allow: append([]string{"*"}, "spare", "more")[:1], Deny: append([]string{"x", "y"}, "spare")[:2]}
	showAcl := func() string { return show(a.Allow[:cap(a.Allow)]) + show(a.Deny[:cap(a.Deny)]) }
	before := showRoom(l) + showAcl()
	var first string
	for i := range 50 {
		levels, _ := content.LevelsBody(l)
		acl, _ := content.AclBody(a)
		member, _ := content.MemberBody(api.MemberBan)
		rule, _ := content.RuleBody(api.RuleBody{Entity: "e", Recommendation: "r", Reason: "s"})
		create, _ := content.CreateBody("@a:s")
		all := []api.Json{levels, acl, member, rule, create}
		if !jsontest.Apart(all...) {
			t.Fatal("shared")
		}
		shown := jsontest.Show(list(all...))
		if i > 0 && shown != first {
			t.Fatalf("%s, then %s", first, shown)
		}
		first = shown
		for _, v := range all {
			spoil(&v)
		}
		if showRoom(l)+showAcl() != before {
			t.Fatal("changed")
		}
	}
}

// spoil writes over all the memory of v.
func spoil(v *api.Json) {
	for i := range v.Items {
		spoil(&v.Items[i])
	}
	v.Keys, v.Items = v.Keys[:cap(v.Keys)], v.Items[:cap(v.Items)]
	for i := range v.Keys {
		v.Keys[i] = "spoilt"
	}
	for i := range v.Items {
		v.Items[i] = text("spoilt")
	}
}

// Rule 3: not even the bytes of strings are kept.
func TestMadeKeepsNoString(t *testing.T) {
	l := rich()
	a := api.Acl{Allow: []string{"*"}, Deny: []string{"x"}}
	r := api.RuleBody{Entity: "e", Recommendation: "r", Reason: "s"}
	creator := "@a:s"
	levels, _ := content.LevelsBody(l)
	acl, _ := content.AclBody(a)
	rule, _ := content.RuleBody(r)
	create, _ := content.CreateBody(creator)
	all := list(levels, acl, rule, create)
	for _, s := range []string{l.Users[0].User, l.Users[1].User, l.Events[1].Type, l.Events[2].Type, a.Allow[0], a.Deny[0], r.Entity, r.Recommendation, r.Reason, creator} {
		if holds(all, s) {
			t.Errorf("%q is kept", s)
		}
	}
}
