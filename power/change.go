package power

import (
	"slices"

	"outlaw/api"
)

// Change reports whether user may replace the levels old by now.
func Change(old, now api.Levels, user string) bool {
	if Check(old) != api.OK || Check(now) != api.OK {
		return false
	}
	c := change{old: old, now: now, user: user, own: Of(old, user)}
	return c.mayNumbers() && c.mayUsers() && c.mayTypes()
}

// change is a replacement of valid levels by valid ones: own is the level that
// the user who makes it has before it.
type change struct {
	old, now api.Levels
	user     string
	own      int64
}

func (c *change) mayNumbers() bool {
	for _, number := range numbers() {
		was, is := number(levels(c.old)), number(levels(c.now))
		if was != is && max(was, is) > c.own {
			return false
		}
	}
	return true
}

func (c *change) mayUsers() bool {
	for _, x := range slices.Concat(c.old.Users, c.now.Users) {
		was, is := userEntry(c.old, x.User), userEntry(c.now, x.User)
		if was != is && !c.mayUser(x.User, was.n, is.n) {
			return false
		}
	}
	return true
}

// mayUser needs no bound for what the user itself had: that was own.
func (c *change) mayUser(user string, was, is int64) bool {
	return is <= c.own && (was < c.own || user == c.user)
}

func (c *change) mayTypes() bool {
	for _, x := range slices.Concat(c.old.Events, c.now.Events) {
		was, is := typeEntry(c.old, x.Type), typeEntry(c.now, x.Type)
		if was != is && max(was.n, is.n) > c.own {
			return false
		}
	}
	return true
}

// entry is the number of a key in levels, or what counts where it has none: to
// give it an entry of that number is a change too.
type entry struct {
	n   int64
	has bool
}

func userEntry(l api.Levels, user string) entry {
	if i, has := search(l.Users, user, userOf); has {
		return entry{l.Users[i].N, true}
	}
	return entry{n: l.UsersDefault}
}

// typeEntry lets the greater default count: it is not known whether events of
// a type without an entry are state.
func typeEntry(l api.Levels, typ string) entry {
	if i, has := search(l.Events, typ, typeOf); has {
		return entry{l.Events[i].N, true}
	}
	return entry{n: max(l.StateDefault, l.EventsDefault)}
}
