package power

import (
	"slices"
	"strings"
	"unicode/utf8"

	"outlaw/api"
	"outlaw/ident"
)

// levels tells its numbers by methods, so that they can be visited.
type levels api.Levels

func (l levels) usersDefault() int64  { return l.UsersDefault }
func (l levels) eventsDefault() int64 { return l.EventsDefault }
func (l levels) stateDefault() int64  { return l.StateDefault }
func (l levels) ban() int64           { return l.Ban }
func (l levels) kick() int64          { return l.Kick }
func (l levels) redact() int64        { return l.Redact }
func (l levels) invite() int64        { return l.Invite }

// numbers are all that levels have beside their lists.
func numbers() [7]func(levels) int64 {
	return [7]func(levels) int64{
		levels.usersDefault,
		levels.eventsDefault,
		levels.stateDefault,
		levels.ban,
		levels.kick,
		levels.redact,
		levels.invite,
	}
}

// Check returns ErrArg if l is not valid. How many entries there are does not
// matter: only a body of them has a greatest number.
func Check(l api.Levels) api.Errno {
	if !areNumbersValid(l) || !areUsersValid(l.Users) || !areTypesValid(l.Events) {
		return api.ErrArg
	}
	return api.OK
}

func areNumbersValid(l api.Levels) bool {
	for _, number := range numbers() {
		if !isInRange(number(levels(l))) {
			return false
		}
	}
	return true
}

func areUsersValid(all []api.UserLevel) bool {
	isWrong := func(x api.UserLevel) bool { return !ident.User(x.User) || !isInRange(x.N) }
	return !slices.ContainsFunc(all, isWrong) && ascend(all, userOf)
}

func areTypesValid(all []api.TypeLevel) bool {
	isWrong := func(x api.TypeLevel) bool { return !utf8.ValidString(x.Type) || !isInRange(x.N) }
	return !slices.ContainsFunc(all, isWrong) && ascend(all, typeOf)
}

func isInRange(n int64) bool { return n >= -api.MostNumber && n <= api.MostNumber }

func userOf(x api.UserLevel) string { return x.User }

func typeOf(x api.TypeLevel) string { return x.Type }

// ascend reports whether the keys of the entries ascend, no two equal.
func ascend[E any](all []E, keyOf func(E) string) bool {
	for i := 1; i < len(all); i++ {
		if keyOf(all[i-1]) >= keyOf(all[i]) {
			return false
		}
	}
	return true
}

// find returns where the first entry of a key is, in any entries.
func find[E any](all []E, key string, keyOf func(E) string) (int, bool) {
	if ascend(all, keyOf) {
		return search(all, key, keyOf)
	}
	for i, x := range all {
		if keyOf(x) == key {
			return i, true
		}
	}
	return 0, false
}

// search is find for entries that are known to ascend.
func search[E any](all []E, key string, keyOf func(E) string) (int, bool) {
	return slices.BinarySearchFunc(all, key, func(x E, key string) int {
		return strings.Compare(keyOf(x), key)
	})
}
