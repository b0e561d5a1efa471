package power_test

import (
	"fmt"
	"math"
	"slices"
	"strings"
	"testing"
	"unsafe"

	"outlaw/api"
	"outlaw/content"
	"outlaw/power"
)

const most = 9007199254740991

// users makes a list; each text is a user, =, and a level.
func users(texts ...string) []api.UserLevel {
	var l []api.UserLevel
	for _, s := range texts {
		user, n := split(s)
		l = append(l, api.UserLevel{User: user, N: n})
	}
	return l
}

// types makes a list; each text is a type, =, and a level.
func types(texts ...string) []api.TypeLevel {
	var l []api.TypeLevel
	for _, s := range texts {
		typ, n := split(s)
		l = append(l, api.TypeLevel{Type: typ, N: n})
	}
	return l
}

func split(s string) (string, int64) {
	i := strings.LastIndexByte(s, '=')
	var n int64
	if _, err := fmt.Sscan(s[i+1:], &n); err != nil {
		panic(s)
	}
	return s[:i], n
}

// rich returns valid levels in which all numbers differ.
func rich() api.Levels {
	return api.Levels{
		Users:        users("@a:B=100", "@a:b=-1", "@c:b=50"),
		Events:       types("=-2", "m.room.create=9007199254740991", "é\n=7"),
		UsersDefault: 1, EventsDefault: 2, StateDefault: 3, Ban: 4, Kick: 5, Redact: 6, Invite: -most,
	}
}

// but returns l after the change.
func but(l api.Levels, change func(l *api.Levels)) api.Levels {
	change(&l)
	return l
}

// show writes all fields.
func show(l api.Levels) string { return fmt.Sprintf("%#v", l) }

// roomy returns a copy of l in which both lists have spare capacity, filled.
func roomy(l api.Levels) api.Levels {
	l.Users = append(slices.Clone(l.Users), users("@spare:s=1", "@more:s=1")...)[:len(l.Users)]
	l.Events = append(slices.Clone(l.Events), types("spare=1", "more=1")...)[:len(l.Events)]
	return l
}

// showRoom is show with the spare capacity of the lists.
func showRoom(l api.Levels) string {
	return show(l) + fmt.Sprintf("%#v %#v", l.Users[:cap(l.Users)], l.Events[:cap(l.Events)])
}

// numbersOf tells where all numbers of l are, those of the entries last.
func numbersOf(l *api.Levels) []*int64 {
	all := []*int64{&l.UsersDefault, &l.EventsDefault, &l.StateDefault, &l.Ban, &l.Kick, &l.Redact, &l.Invite}
	for i := range l.Users {
		all = append(all, &l.Users[i].N)
	}
	for i := range l.Events {
		all = append(all, &l.Events[i].N)
	}
	return all
}

// checkIs checks whether l is valid, also beside the second way.
func checkIs(t *testing.T, l api.Levels, valid bool) {
	t.Helper()
	want := api.ErrArg
	if valid {
		want = api.OK
	}
	if got := power.Check(l); got != want {
		t.Errorf("%.200s: error %d, want %d", show(l), got, want)
	}
	if isSlowValid(l) != valid {
		t.Errorf("%.200s: the second way differs", show(l))
	}
}

// The numbers that the document gives.
func TestNumbers(t *testing.T) {
	if api.PowInvite != 1 || api.PowKick != 2 || api.PowBan != 3 || api.PowRedact != 4 {
		t.Error("acts")
	}
	if api.ErrArg != 2 || api.MostNumber != most {
		t.Error("errors and limits")
	}
}

// P11.1: numbers that are in range, and others, wherever they stand.
func TestCheckNumbers(t *testing.T) {
	l := rich()
	checkIs(t, l, true)
	for _, n := range numbersOf(&l) {
		was := *n
		for _, x := range []int64{most, -most, 0, 1 << 31, -1 << 32} {
			*n = x
			checkIs(t, l, true)
		}
		for _, x := range []int64{most + 1, -most - 1, math.MaxInt64, math.MinInt64} {
			*n = x
			checkIs(t, l, false)
		}
		*n = was
	}
}

// P11.1: lists that ascend, of users or of valid texts, and others.
func TestCheckLists(t *testing.T) {
	long := "@" + strings.Repeat("a", 252) + ":s=0"
	for _, x := range []struct {
		texts         []string
		users, events bool
	}{
		{nil, true, true},
		{[]string{"@a:s=1"}, true, true},
		{[]string{"@a:S=1", "@a:s=1", "@b:s=0", "@c.:s=2", "@c:s=-3"}, true, true},
		{[]string{"@a:s=1", "@a:s=1"}, false, false},
		{[]string{"@a:s=1", "@a:s=2"}, false, false},
		{[]string{"@a:s=2", "@a:s=1"}, false, false},
		{[]string{"@b:s=1", "@a:s=2"}, false, false},
		{[]string{"@a:s=1", "@b:s=1", "@b:s=1"}, false, false},
		{[]string{"@a:s=1", "@c:s=1", "@b:s=1"}, false, false},
		{[]string{"@a:s=1", "@b:s=1", "@a:s=1"}, false, false},
		{[]string{"=1"}, false, true},
		{[]string{"=1", "a=1", "b=1"}, false, true},
		{[]string{"@a:s=1", "a=1"}, false, true},
		{[]string{"@A:s=1"}, false, true},
		{[]string{"@a:=1"}, false, true},
		{[]string{"@a=1"}, false, true},
		{[]string{"!a:s=1"}, false, true},
		{[]string{"@a:s=1", "é=1", "€=1", "\U0010ffff=1"}, false, true},
		{[]string{"\xff=1"}, false, false},
		{[]string{"a=1", "b\xc3=1"}, false, false},
		{[]string{"\xc0\x80=1"}, false, false},
		{[]string{"\xed\xa0\x80=1"}, false, false},
		{[]string{"\xf4\x90\x80\x80=1"}, false, false},
		{[]string{long}, true, true},
		{[]string{strings.Replace(long, "a", "aa", 1)}, false, true},
		{[]string{strings.Repeat("é", 1000) + "=1"}, false, true},
	} {
		checkIs(t, but(rich(), func(l *api.Levels) { l.Users = users(x.texts...) }), x.users)
		checkIs(t, but(rich(), func(l *api.Levels) { l.Events = types(x.texts...) }), x.events)
	}
}

// P11.1: all short lists of some users and types.
func TestCheckAllLists(t *testing.T) {
	keys := []string{"", "@a:s", "@a:S", "@b:s", "a", "é", "\xff"}
	lists := [][]string{nil}
	for i := 0; len(lists[i]) < 3; i++ {
		for _, key := range keys {
			lists = append(lists, append(slices.Clone(lists[i]), key+"=1"))
		}
	}
	for _, texts := range lists {
		for _, l := range []api.Levels{{Users: users(texts...)}, {Events: types(texts...)}} {
			checkIs(t, l, isSlowValid(l))
			if _, is := content.LevelsBody(l); is != isSlowValid(l) {
				t.Errorf("%s: has a body: %v", show(l), is)
			}
		}
	}
}

// P11.1: how many entries there are does not matter.
func TestCheckMany(t *testing.T) {
	var l api.Levels
	for i := range 2000 {
		l.Users = append(l.Users, api.UserLevel{User: fmt.Sprintf("@u%04d:s", i), N: int64(i)})
		l.Events = append(l.Events, api.TypeLevel{Type: fmt.Sprintf("t%04d", i), N: int64(-i)})
	}
	checkIs(t, l, true)
	for i := range 2000 {
		if power.Of(l, l.Users[i].User) != int64(i) || power.Need(l, l.Events[i].Type, true) != int64(-i) {
			t.Fatalf("entry %d is not found", i)
		}
	}
	l.Users[1999].User = l.Users[1998].User
	checkIs(t, l, false)
}

// P11.1: the default levels, and the creator with 100.
func TestDefault(t *testing.T) {
	initially, is := content.LevelsOf(api.Json{Kind: api.JsonObject})
	if want := (api.Levels{StateDefault: 50, Ban: 50, Kick: 50, Redact: 50}); !is || !content.SameLevels(initially, want) {
		t.Fatal("other default levels")
	}
	long := "@" + strings.Repeat("a", 252) + ":s"
	for _, creator := range []string{"@a:s", "@a:B.org:80", "@=/+-._09:s", long} {
		l := power.Default(creator)
		want := initially
		want.Users = []api.UserLevel{{User: creator, N: 100}}
		if !content.SameLevels(l, want) || power.Check(l) != api.OK {
			t.Errorf("%.20s: %.200s", creator, show(l))
		}
	}
	for _, creator := range []string{"", "a", "@a", "@a:", "@A:s", "@:s", "!a:s", "$a", "x.org", " @a:s", "@a:s ", "@é:s", "\xff", long + "s"} {
		if l := power.Default(creator); !content.SameLevels(l, initially) {
			t.Errorf("%.20s: %.200s", creator, show(l))
		}
	}
}

// Rule 3: what Default returns is new memory.
func TestDefaultIsNew(t *testing.T) {
	creator := "@a:s"
	a, b := power.Default(creator), power.Default(creator)
	if unsafe.StringData(a.Users[0].User) == unsafe.StringData(creator) {
		t.Error("shares the creator")
	}
	a.Users[0].N = 7
	_ = append(a.Users, api.UserLevel{N: 1})
	if b.Users[0].N != 100 || power.Default(creator).Users[0].N != 100 {
		t.Error("shares a list")
	}
}

// keysOf returns the keys of a list, and some that it does not have.
func keysOf(texts []string) []string {
	all := []string{"", "@", "@a:s", "@a:t", "@b:s", "@c:s", "@z:s", "a", "~", "\xff", "@a:s\x00"}
	for _, s := range texts {
		key, _ := split(s)
		all = append(all, key, key+"x", strings.ToUpper(key))
	}
	return all
}

// unsorted are lists of which no binary search finds each first entry.
func unsorted() [][]string {
	return [][]string{
		nil,
		{"@a:s=1"},
		{"@a:s=1", "@b:s=2", "@c:s=3"},
		{"@c:s=1", "@b:s=2", "@a:s=3"},
		{"@b:s=1", "@a:s=2", "@c:s=3"},
		{"@b:s=1", "@b:s=2", "@b:s=3"},
		{"@b:s=3", "@b:s=2", "@b:s=1"},
		{"@a:s=5", "@b:s=4", "@b:s=3", "@b:s=2", "@c:s=1"},
		{"@a:s=5", "@b:s=4", "@c:s=3", "@b:s=2", "@a:s=1"},
		{"@c:s=5", "@a:s=4", "@b:s=3", "@c:s=2", "@a:s=1", "@b:s=0"},
		{"=9", "a=8", "\xff=7"},
		{"\xff=9", "a=8", "=7", "a=6"},
	}
}

// P11.1: the level of a user, in any levels.
func TestOf(t *testing.T) {
	for _, texts := range unsorted() {
		l := but(rich(), func(l *api.Levels) { l.Users = users(texts...) })
		for _, user := range keysOf(texts) {
			if got, want := power.Of(roomy(l), user), slowOf(l, user); got != want {
				t.Errorf("%q has %d by %q, want %d", user, got, texts, want)
			}
		}
	}
	l := api.Levels{Users: users("@b:s=2", "@a:s=1", "@b:s=3"), UsersDefault: 7}
	for user, want := range map[string]int64{"@a:s": 1, "@b:s": 2, "@c:s": 7, "": 7, "@B:s": 7, "@b:S": 7} {
		if got := power.Of(l, user); got != want {
			t.Errorf("%q has %d, want %d", user, got, want)
		}
	}
}

// P11.1: the level that an event requires, in any levels.
func TestNeed(t *testing.T) {
	for _, texts := range unsorted() {
		l := but(rich(), func(l *api.Levels) { l.Events = types(texts...) })
		for _, typ := range keysOf(texts) {
			for _, state := range []bool{false, true} {
				if got, want := power.Need(roomy(l), typ, state), slowNeed(l, typ, state); got != want {
					t.Errorf("%q, %v, requires %d by %q, want %d", typ, state, got, texts, want)
				}
			}
		}
	}
	l := api.Levels{Events: types("t=2", "a=1", "t=3"), EventsDefault: 7, StateDefault: 8}
	for typ, want := range map[string][2]int64{"a": {1, 1}, "t": {2, 2}, "": {7, 8}, "T": {7, 8}, "\xff": {7, 8}} {
		if power.Need(l, typ, false) != want[0] || power.Need(l, typ, true) != want[1] {
			t.Errorf("%q requires %d, and as state %d, want %d", typ, power.Need(l, typ, false), power.Need(l, typ, true), want)
		}
	}
}

// P11.1: all short lists of three keys, also with numbers far out of range.
func TestAllLookups(t *testing.T) {
	keys := []string{"a", "b", "c"}
	lists := [][]string{nil}
	for i := 0; len(lists[i]) < 5; i++ {
		for _, key := range keys {
			n := []int64{math.MinInt64, -1, 5, math.MaxInt64}[len(lists)%4]
			lists = append(lists, append(slices.Clone(lists[i]), fmt.Sprintf("%s=%d", key, n+int64(len(lists)%2))))
		}
	}
	for _, texts := range lists {
		l := api.Levels{Users: users(texts...), Events: types(texts...), UsersDefault: 1, EventsDefault: 2, StateDefault: 3}
		for _, key := range append(keys, "", "d") {
			if power.Of(l, key) != slowOf(l, key) || power.Need(l, key, true) != slowNeed(l, key, true) || power.Need(l, key, false) != slowNeed(l, key, false) {
				t.Fatalf("%q: %d, %d, %d by %q", key, power.Of(l, key), power.Need(l, key, true), power.Need(l, key, false), texts)
			}
		}
	}
}

// extremes are numbers about each other, in range and out of it.
var extremes = []int64{math.MinInt64, math.MinInt64 + 1, -most - 1, -most, -1, 0, 1, 49, 50, 51, most, most + 1, math.MaxInt64 - 1, math.MaxInt64}

// P11.1: a user may do what requires its level, or less, and nothing else.
func TestMay(t *testing.T) {
	for act := -3; act < 8; act++ {
		for i, need := range extremes {
			l := rich()
			// Only the number of the act is need; all others are as far from it as can be.
			far := int64(math.MinInt64)
			if i < len(extremes)/2 {
				far = math.MaxInt64
			}
			l.EventsDefault, l.StateDefault, l.Invite, l.Kick, l.Ban, l.Redact = far, far, far, far, far, far
			if field := map[int]*int64{1: &l.Invite, 2: &l.Kick, 3: &l.Ban, 4: &l.Redact}[act]; field != nil {
				*field = need
			}
			for _, own := range extremes {
				l.Users[0].N = own
				l.UsersDefault = own
				want := act >= 1 && act <= 4 && own >= need
				if power.May(l, "@a:B", act) != want || power.May(l, "", act) != want {
					t.Errorf("act %d, which requires %d, with %d: not %v", act, need, own, want)
				}
				if slowMay(l, "@a:B", act) != want {
					t.Error("the second way differs")
				}
			}
		}
	}
	for _, act := range []int{math.MinInt, math.MaxInt, 1 << 32, 1<<32 + 1, -1, 0, 5} {
		if power.May(api.Levels{}, "@a:s", act) || power.May(power.Default("@a:s"), "@a:s", act) {
			t.Errorf("act %d", act)
		}
	}
}

// P11.1: a user may send what requires its level, or less.
func TestSend(t *testing.T) {
	for _, need := range extremes {
		for _, own := range extremes {
			entry := api.Levels{Users: []api.UserLevel{{User: "u", N: own}}, Events: []api.TypeLevel{{Type: "t", N: need}}, EventsDefault: ^need, StateDefault: ^need, UsersDefault: ^own}
			message := api.Levels{EventsDefault: need, StateDefault: ^need, UsersDefault: own}
			state := api.Levels{EventsDefault: ^need, StateDefault: need, UsersDefault: own}
			want := own >= need
			if power.Send(entry, "u", "t", true) != want || power.Send(entry, "u", "t", false) != want {
				t.Errorf("%d sends a type that requires %d: not %v", own, need, want)
			}
			if power.Send(message, "u", "t", false) != want || power.Send(state, "u", "t", true) != want {
				t.Errorf("%d sends what requires %d: not %v", own, need, want)
			}
			other := ^own >= ^need
			if power.Send(entry, "v", "x", false) != other || power.Send(entry, "v", "x", true) != other {
				t.Errorf("%d sends what requires %d: not %v", ^own, ^need, other)
			}
		}
	}
}

// P11.1: only a greater level is above.
func TestAbove(t *testing.T) {
	for _, a := range extremes {
		for _, b := range extremes {
			l := api.Levels{Users: []api.UserLevel{{User: "b", N: b}, {User: "a", N: a}, {User: "b", N: a}}, UsersDefault: b}
			if power.Above(l, "a", "b") != (a > b) || power.Above(l, "a", "other") != (a > b) || power.Above(l, "b", "a") != (b > a) {
				t.Errorf("%d above %d: not %v", a, b, a > b)
			}
			if power.Above(l, "a", "a") || power.Above(l, "other", "b") {
				t.Errorf("%d is above itself", a)
			}
		}
	}
}

// Rule 4: a nil list and an empty one are the same.
func TestNilLists(t *testing.T) {
	none := api.Levels{UsersDefault: 1, EventsDefault: 2, StateDefault: 3}
	empty := none
	empty.Users, empty.Events = []api.UserLevel{}, make([]api.TypeLevel, 0, 3)
	for _, l := range []api.Levels{none, empty} {
		if power.Check(l) != api.OK || power.Of(l, "") != 1 || power.Need(l, "", false) != 2 || power.Need(l, "", true) != 3 {
			t.Errorf("%s", show(l))
		}
		if !power.Change(none, l, "@a:s") || !power.Change(l, none, "@a:s") {
			t.Errorf("%s: a difference", show(l))
		}
	}
}

// Rule 3: levels stay as they are, and their spare capacity too.
func TestLeavesArguments(t *testing.T) {
	for _, texts := range unsorted() {
		l := roomy(but(rich(), func(l *api.Levels) { l.Users, l.Events = users(texts...), types(texts...) }))
		now := roomy(rich())
		before := showRoom(l) + showRoom(now)
		power.Check(l)
		power.Of(l, "@b:s")
		power.Need(l, "@b:s", true)
		power.May(l, "@b:s", api.PowBan)
		power.Send(l, "@b:s", "@b:s", true)
		power.Above(l, "@b:s", "@a:s")
		power.Change(l, now, "@b:s")
		power.Change(now, l, "@a:B")
		if showRoom(l)+showRoom(now) != before {
			t.Errorf("%q: changed", texts)
		}
	}
}
