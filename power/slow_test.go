package power_test

import (
	"math/big"
	"regexp"
	"strings"
	"unicode/utf8"

	"outlaw/api"
)

// The second way: entries become maps, and numbers big ones.

var slowUser = regexp.MustCompile(`^@[a-z0-9._=\-/+]+:[a-zA-Z0-9.\-]+(:[0-9]{1,5})?$`)

func isSlowUser(s string) bool {
	_, server, _ := strings.Cut(s, ":")
	return slowUser.MatchString(s) && len(s) <= 255 && len(server) <= 128
}

// slowNumbers returns the seven numbers, in the order of the struct.
func slowNumbers(l api.Levels) [7]int64 {
	return [7]int64{l.UsersDefault, l.EventsDefault, l.StateDefault, l.Ban, l.Kick, l.Redact, l.Invite}
}

// slowUsers goes from the last entry to the first one, which so remains.
func slowUsers(l api.Levels) map[string]int64 {
	m := map[string]int64{}
	for i := len(l.Users) - 1; i >= 0; i-- {
		m[l.Users[i].User] = l.Users[i].N
	}
	return m
}

func slowTypes(l api.Levels) map[string]int64 {
	m := map[string]int64{}
	for i := len(l.Events) - 1; i >= 0; i-- {
		m[l.Events[i].Type] = l.Events[i].N
	}
	return m
}

// isSlowValid compares each entry with each that comes after it.
func isSlowValid(l api.Levels) bool {
	all := slowNumbers(l)
	is := true
	numbers := all[:]
	for i, x := range l.Users {
		numbers = append(numbers, x.N)
		is = is && isSlowUser(x.User)
		for _, y := range l.Users[i+1:] {
			is = is && x.User < y.User
		}
	}
	for i, x := range l.Events {
		numbers = append(numbers, x.N)
		is = is && utf8.ValidString(x.Type)
		for _, y := range l.Events[i+1:] {
			is = is && x.Type < y.Type
		}
	}
	for _, n := range numbers {
		is = is && new(big.Int).Abs(big.NewInt(n)).BitLen() <= 53
	}
	return is
}

func slowOf(l api.Levels, user string) int64 {
	if n, has := slowUsers(l)[user]; has {
		return n
	}
	return l.UsersDefault
}

func slowNeed(l api.Levels, typ string, state bool) int64 {
	n, has := slowTypes(l)[typ]
	switch {
	case has:
		return n
	case state:
		return l.StateDefault
	}
	return l.EventsDefault
}

func slowMay(l api.Levels, user string, act int) bool {
	need, is := map[int]int64{1: l.Invite, 2: l.Kick, 3: l.Ban, 4: l.Redact}[act]
	return is && !(slowOf(l, user) < need)
}

// slowChange asks of each difference which numbers are too great for it.
func slowChange(old, now api.Levels, user string) bool {
	if !isSlowValid(old) || !isSlowValid(now) {
		return false
	}
	own := slowOf(old, user)
	tooGreat := 0
	most := func(limit int64, numbers ...int64) {
		for _, n := range numbers {
			if n > limit {
				tooGreat++
			}
		}
	}
	after := slowNumbers(now)
	for i, n := range slowNumbers(old) {
		if n != after[i] {
			most(own, n, after[i])
		}
	}
	differing(slowUsers(old), slowUsers(now), func(u string) {
		most(own, slowOf(now, u))
		if u == user {
			most(own, slowOf(old, u))
		} else {
			most(own-1, slowOf(old, u))
		}
	})
	differing(slowTypes(old), slowTypes(now), func(typ string) {
		most(own, slowNeed(old, typ, true), slowNeed(now, typ, true))
		most(own, slowNeed(old, typ, false), slowNeed(now, typ, false))
	})
	return tooGreat == 0
}

// differing visits the keys that are in one map alone, or have other numbers.
func differing(a, b map[string]int64, visit func(key string)) {
	for key, n := range a {
		if m, has := b[key]; !has || m != n {
			visit(key)
		}
	}
	for key := range b {
		if _, has := a[key]; !has {
			visit(key)
		}
	}
}
