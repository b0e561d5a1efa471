package power_test

import (
	"fmt"
	"math"
	"math/rand"
	"slices"
	"testing"

	"outlaw/api"
	"outlaw/power"
)

// changeIs checks whether user may replace old by now, also beside the second way.
func changeIs(t *testing.T, old, now api.Levels, user string, want bool) {
	t.Helper()
	if got := power.Change(roomy(old), roomy(now), user); got != want {
		t.Errorf("%s may replace\n%s by\n%s: %v, want %v", user, show(old), show(now), got, want)
	}
	if slowChange(old, now, user) != want {
		t.Errorf("%s may replace\n%s by\n%s: not %v by the second way", user, show(old), show(now), want)
	}
}

// ranks returns levels with users of 100, 50, 50 and 49, and types of 51, 50 and 49.
func ranks() api.Levels {
	return api.Levels{
		Users:        users("@high:s=100", "@low:s=49", "@me:s=50", "@peer:s=50"),
		Events:       types("high=51", "low=49", "same=50"),
		UsersDefault: 10, EventsDefault: 20, StateDefault: 30, Ban: 40, Kick: 41, Redact: 42, Invite: 43,
	}
}

// P11.2: each of the seven numbers, from a value to a value.
func TestChangeNumbers(t *testing.T) {
	for i := range 7 {
		for _, was := range []int64{-most, 0, 49, 50, 51, most} {
			for _, is := range []int64{-most, 0, 49, 50, 51, most} {
				old, now := ranks(), ranks()
				*numbersOf(&old)[i] = was
				*numbersOf(&now)[i] = is
				changeIs(t, old, now, "@me:s", was == is || was <= 50 && is <= 50)
			}
		}
	}
}

// P11.2: each of the numbers may differ beside others that may not.
func TestChangeAllNumbers(t *testing.T) {
	for i := range 7 {
		now := ranks()
		for j, n := range numbersOf(&now)[:7] {
			*n = int64(j)
		}
		changeIs(t, ranks(), now, "@me:s", true)
		*numbersOf(&now)[i] = 51
		changeIs(t, ranks(), now, "@me:s", false)
		changeIs(t, now, ranks(), "@me:s", false)
		changeIs(t, ranks(), now, "@high:s", true)
	}
}

// P11.2: what becomes of the entries of users, when @me:s, who has 50, changes them.
func TestChangeUsers(t *testing.T) {
	for _, x := range []struct {
		now  []string
		want bool
	}{
		{[]string{"@high:s=100", "@low:s=49", "@me:s=50", "@peer:s=50"}, true},
		{[]string{"@high:s=99", "@low:s=49", "@me:s=50", "@peer:s=50"}, false},
		{[]string{"@high:s=101", "@low:s=49", "@me:s=50", "@peer:s=50"}, false},
		{[]string{"@high:s=0", "@low:s=49", "@me:s=50", "@peer:s=50"}, false},
		{[]string{"@low:s=49", "@me:s=50", "@peer:s=50"}, false},
		{[]string{"@high:s=100", "@low:s=-1", "@me:s=50", "@peer:s=50"}, true},
		{[]string{"@high:s=100", "@low:s=50", "@me:s=50", "@peer:s=50"}, true},
		{[]string{"@high:s=100", "@low:s=51", "@me:s=50", "@peer:s=50"}, false},
		{[]string{"@high:s=100", "@me:s=50", "@peer:s=50"}, true},
		{[]string{"@high:s=100", "@low:s=49", "@me:s=49", "@peer:s=50"}, true},
		{[]string{"@high:s=100", "@low:s=49", "@me:s=51", "@peer:s=50"}, false},
		{[]string{"@high:s=100", "@low:s=49", "@peer:s=50"}, true},
		{[]string{"@high:s=100", "@low:s=49", "@me:s=50", "@peer:s=49"}, false},
		{[]string{"@high:s=100", "@low:s=49", "@me:s=50", "@peer:s=51"}, false},
		{[]string{"@high:s=100", "@low:s=49", "@me:s=50"}, false},
		{[]string{"@high:s=100", "@low:s=49", "@me:s=50", "@new:s=50", "@peer:s=50"}, true},
		{[]string{"@high:s=100", "@low:s=49", "@me:s=50", "@new:s=51", "@peer:s=50"}, false},
		{[]string{"@high:s=100", "@low:s=49", "@me:s=50", "@new:s=10", "@peer:s=50"}, true},
		{[]string{"@a:s=1", "@high:s=100", "@peer:s=50", "@z:s=50"}, true},
		{[]string{"@a:s=1", "@high:s=100", "@peer:s=50", "@z:s=51"}, false},
		{nil, false},
	} {
		changeIs(t, ranks(), but(ranks(), func(l *api.Levels) { l.Users = users(x.now...) }), "@me:s", x.want)
	}
}

// P11.2: where there is no entry, the default of the levels counts that have none.
func TestChangeUsersDefault(t *testing.T) {
	// by returns levels of one who has 50, of another one, and a default.
	by := func(other string, byDefault int64) api.Levels {
		l := api.Levels{Users: users("@me:s=50"), UsersDefault: byDefault}
		if other != "" {
			l.Users = users("@me:s=50", "@other:s="+other)
		}
		return l
	}
	for _, x := range []struct {
		old, now         string
		oldBase, nowBase int64
		want             bool
	}{
		{"", "0", 49, 49, true},
		{"", "0", 50, 50, false},
		{"", "50", 50, 50, false},
		{"", "0", 51, 51, false},
		{"", "51", 51, 51, false},
		{"", "0", 49, 50, true},
		{"", "0", 50, 49, false},
		{"0", "", 50, 50, true},
		{"50", "", 0, 0, false},
		{"49", "", 0, 50, true},
		{"0", "", 51, 51, false},
		{"51", "", 51, 51, false},
		{"49", "", 49, 51, false},
		{"49", "49", 49, 50, true},
		{"51", "51", 49, 50, true},
	} {
		changeIs(t, by(x.old, x.oldBase), by(x.now, x.nowBase), "@me:s", x.want)
	}
	// The one who makes the change has no entry, and gets one.
	for own, want := range map[string]bool{"-1": true, "50": true, "51": false} {
		changeIs(t, api.Levels{UsersDefault: 50}, api.Levels{UsersDefault: 50, Users: users("@me:s=" + own)}, "@me:s", want)
		changeIs(t, api.Levels{UsersDefault: 50}, api.Levels{UsersDefault: 50, Users: users("@other:s=" + own)}, "@me:s", false)
	}
	// It loses its entry.
	changeIs(t, by("", 49), api.Levels{UsersDefault: 49}, "@me:s", true)
	changeIs(t, by("", 50), api.Levels{UsersDefault: 50}, "@me:s", true)
	changeIs(t, by("", 51), api.Levels{UsersDefault: 51}, "@me:s", false)
}

// P11.2: what becomes of the entries of types, when @me:s, who has 50, changes them.
func TestChangeTypes(t *testing.T) {
	for _, x := range []struct {
		now  []string
		want bool
	}{
		{[]string{"high=51", "low=49", "same=50"}, true},
		{[]string{"high=50", "low=49", "same=50"}, false},
		{[]string{"high=52", "low=49", "same=50"}, false},
		{[]string{"low=49", "same=50"}, false},
		{[]string{"high=51", "low=50", "same=50"}, true},
		{[]string{"high=51", "low=51", "same=50"}, false},
		{[]string{"high=51", "low=49", "same=0"}, true},
		{[]string{"high=51", "low=49", "same=51"}, false},
		{[]string{"high=51"}, true},
		{[]string{"high=51", "low=49", "new=50", "same=50"}, true},
		{[]string{"high=51", "low=49", "new=51", "same=50"}, false},
		{[]string{"=50", "high=51", "z=-9"}, true},
		{[]string{"=51", "high=51", "z=-9"}, false},
		{nil, false},
	} {
		changeIs(t, ranks(), but(ranks(), func(l *api.Levels) { l.Events = types(x.now...) }), "@me:s", x.want)
	}
}

// P11.2: where a type has no entry, the greater default of the levels counts
// that have none.
func TestChangeTypesDefaults(t *testing.T) {
	by := func(entry string, eventsDefault, stateDefault int64) api.Levels {
		l := api.Levels{Users: users("@me:s=50"), EventsDefault: eventsDefault, StateDefault: stateDefault}
		if entry != "" {
			l.Events = types("t=" + entry)
		}
		return l
	}
	for _, x := range []struct {
		events, state int64
		want          bool
	}{
		{50, 50, true}, {0, 50, true}, {50, 0, true}, {51, 0, false}, {0, 51, false}, {51, 51, false}, {-most, -most, true},
	} {
		for _, n := range []string{"0", "50"} {
			changeIs(t, by("", x.events, x.state), by(n, x.events, x.state), "@me:s", x.want)
			changeIs(t, by(n, x.events, x.state), by("", x.events, x.state), "@me:s", x.want)
		}
		changeIs(t, by("51", x.events, x.state), by("", x.events, x.state), "@me:s", false)
		changeIs(t, by("", x.events, x.state), by("51", x.events, x.state), "@me:s", false)
		changeIs(t, by("51", x.events, x.state), by("51", x.events, x.state), "@me:s", true)
		changeIs(t, by("", x.events, x.state), by("", x.events, x.state), "@me:s", true)
	}
	// The number that an entry repeats is no default any more, and so it differs.
	changeIs(t, by("", 51, 51), by("51", 51, 51), "@me:s", false)
	changeIs(t, by("50", 50, 50), by("", 50, 50), "@me:s", true)
}

// P11.2: nobody may replace levels that are not valid, or replace them by such.
func TestChangeWrong(t *testing.T) {
	for i, wrong := range []api.Levels{
		but(ranks(), func(l *api.Levels) { l.Users = users("@b:s=0", "@a:s=0") }),
		but(ranks(), func(l *api.Levels) { l.Users = users("@a:s=0", "@a:s=0") }),
		but(ranks(), func(l *api.Levels) { l.Users = append(l.Users, users("@~:s=0")...) }),
		but(ranks(), func(l *api.Levels) { l.Events = types("b=0", "a=0") }),
		but(ranks(), func(l *api.Levels) { l.Events = types("a=0", "a=0") }),
		but(ranks(), func(l *api.Levels) { l.Events = append(l.Events, types("\xff=0")...) }),
		but(ranks(), func(l *api.Levels) { l.Invite = -most - 1 }),
		but(ranks(), func(l *api.Levels) { l.UsersDefault = math.MinInt64 }),
		but(ranks(), func(l *api.Levels) { l.Events = types("high=-9007199254740992") }),
	} {
		for _, user := range []string{"@high:s", "@me:s", "", "\xff"} {
			if power.Check(wrong) != api.ErrArg {
				t.Errorf("%d is valid", i)
			}
			changeIs(t, wrong, wrong, user, false)
			changeIs(t, wrong, ranks(), user, false)
			changeIs(t, ranks(), wrong, user, false)
		}
	}
}

// P11.2: one who is no user has the default.
func TestChangeByNoUser(t *testing.T) {
	for _, user := range []string{"", "me", "@me", "\xff", "@ME:s", "@me:s\x00"} {
		changeIs(t, ranks(), ranks(), user, true)
		changeIs(t, ranks(), but(ranks(), func(l *api.Levels) { l.UsersDefault = 9 }), user, true)
		changeIs(t, ranks(), but(ranks(), func(l *api.Levels) { l.UsersDefault = 11 }), user, false)
		changeIs(t, ranks(), but(ranks(), func(l *api.Levels) { l.EventsDefault = 19 }), user, false)
	}
}

// P11.2: levels with many entries are compared entry by entry.
func TestChangeMany(t *testing.T) {
	var old, now api.Levels
	for i := range 1 << 16 {
		user, typ := fmt.Sprintf("@u%05d:s", i), fmt.Sprintf("t%05d", i)
		old.Users = append(old.Users, api.UserLevel{User: user, N: int64(i)})
		now.Users = append(now.Users, api.UserLevel{User: user, N: int64(i + 1)})
		old.Events = append(old.Events, api.TypeLevel{Type: typ, N: int64(i)})
		now.Events = append(now.Events, api.TypeLevel{Type: typ, N: int64(-i)})
	}
	const last = 1<<16 - 1
	now.Users[last].N = 0
	for i, want := range map[int]bool{last: true, last - 1: false, 0: false} {
		if got := power.Change(old, now, old.Users[i].User); got != want {
			t.Errorf("user %d: %v", i, got)
		}
	}
}

// some returns all levels of a few entries and defaults, all valid.
func some() []api.Levels {
	var all []api.Levels
	entries := func(key string) []string { return []string{"", key + "=0", key + "=1", key + "=2"} }
	for _, a := range entries("@a:s") {
		for _, b := range entries("@b:s") {
			for _, e := range entries("t") {
				for i := range 8 {
					l := api.Levels{UsersDefault: int64(i & 1), EventsDefault: int64(i & 2), StateDefault: int64(i >> 2), Ban: int64(i % 3), Kick: int64(i % 3)}
					l.Users = users(without(a, b)...)
					l.Events = types(without(e)...)
					all = append(all, l)
				}
			}
		}
	}
	return all
}

func without(texts ...string) []string {
	return slices.DeleteFunc(texts, func(s string) bool { return s == "" })
}

// P11.2 and P11.3: each of some levels is replaced by each.
func TestChangeAll(t *testing.T) {
	all := some()
	allowed := 0
	for _, old := range all {
		for _, now := range all {
			for _, user := range []string{"@a:s", "@b:s", "@c:s"} {
				got := power.Change(old, now, user)
				if got != slowChange(old, now, user) {
					t.Fatalf("%s may replace %s by %s: %v", user, show(old), show(now), got)
				}
				if got {
					allowed++
					keepsOrder(t, old, now, user)
				}
			}
		}
	}
	if allowed < 1000 {
		t.Errorf("only %d were allowed", allowed)
	}
}

// keepsOrder checks P11.3 for a change that is allowed.
func keepsOrder(t *testing.T, old, now api.Levels, user string) {
	t.Helper()
	own := power.Of(old, user)
	for _, u := range []string{"@a:s", "@b:s", "@c:s", "@d:s"} {
		was, is := power.Of(old, u), power.Of(now, u)
		if is > was && is > own {
			t.Fatalf("%s gets %d by %d", u, is, own)
		}
		if was > own && is != was {
			t.Fatalf("%s has %d after %d by %d", u, is, was, own)
		}
	}
	after := slowNumbers(now)
	for i, n := range slowNumbers(old) {
		if n > own && after[i] != n {
			t.Fatalf("number %d is %d after %d by %d", i, after[i], n, own)
		}
	}
	for _, typ := range []string{"t", "u"} {
		for _, state := range []bool{false, true} {
			if was := power.Need(old, typ, state); was > own && power.Need(now, typ, state) != was {
				t.Fatalf("%s requires %d after %d by %d", typ, power.Need(now, typ, state), was, own)
			}
		}
	}
}

// P11.3: changing nothing is allowed, for everybody.
func TestChangeNothing(t *testing.T) {
	for _, l := range append(some(), api.Levels{}, rich(), ranks(), power.Default("@a:s"), power.Default("")) {
		for _, user := range []string{"@a:s", "@c:b", "@nobody:s", "", "\xff"} {
			changeIs(t, l, l, user, true)
		}
	}
}

// P11.2 and P11.3: levels that chance made and changed a little.
func TestChangeRandom(t *testing.T) {
	r := rand.New(rand.NewSource(11))
	number := func() int64 { return []int64{-most, -1, 0, 1, 2, 50, most - 1, most}[r.Intn(8)] }
	next := func(l api.Levels) api.Levels {
		l = roomy(l)
		for range 1 + r.Intn(3) {
			all := numbersOf(&l)
			switch i := r.Intn(4); {
			case i == 0 && len(l.Users) > 0:
				l.Users = slices.Delete(l.Users, 0, 1)
			case i == 1 && len(l.Events) > 0:
				l.Events = slices.Delete(l.Events, len(l.Events)-1, len(l.Events))
			default:
				*all[r.Intn(len(all))] = number()
			}
		}
		return l
	}
	allowed := 0
	for range 100000 {
		old := api.Levels{Users: users("@a:s=0", "@b:s=0", "@c:s=0"), Events: types("t=0", "u=0")}
		for _, n := range numbersOf(&old) {
			*n = number()
		}
		now := next(old)
		if r.Intn(2) == 0 {
			old, now = now, old
		}
		user := []string{"@a:s", "@b:s", "@c:s", "@d:s"}[r.Intn(4)]
		want := slowChange(old, now, user)
		changeIs(t, old, now, user, want)
		if want {
			allowed++
			keepsOrder(t, old, now, user)
		}
	}
	if allowed < 5000 {
		t.Errorf("only %d were allowed", allowed)
	}
}
