package content

import (
	"outlaw/api"
	"outlaw/canon"
	"outlaw/ident"
	"outlaw/json"
)

// MemberBody returns the body that tells a membership.
func MemberBody(membership int) (api.Json, bool) {
	if membership < api.MemberInvite || membership > api.MemberBan {
		return api.Json{}, false
	}
	return bodyOf(pair{keyMembership, text(memberships[membership])})
}

// LevelsBody returns the body that tells l.
func LevelsBody(l api.Levels) (api.Json, bool) {
	if isTooMany(len(l.Users), len(l.Events)) || !inOrder(&l) {
		return api.Json{}, false
	}
	var users, events []pair
	for _, x := range l.Users {
		if !ident.User(x.User) {
			return api.Json{}, false
		}
		users = append(users, pair{x.User, number(x.N)})
	}
	for _, x := range l.Events {
		events = append(events, pair{x.Type, number(x.N)})
	}
	all := []pair{{keyUsers, objectOf(users...)}, {keyEvents, objectOf(events...)}}
	for key, n := range numbers(&l) {
		all = append(all, pair{key, number(*n)})
	}
	return bodyOf(all...)
}

// RuleBody returns the body that tells r.
func RuleBody(r api.RuleBody) (api.Json, bool) {
	if !ruleFits(&r) {
		return api.Json{}, false
	}
	all := []pair{{keyEntity, text(r.Entity)}, {keyRecommendation, text(r.Recommendation)}}
	if r.Reason != "" {
		all = append(all, pair{keyReason, text(r.Reason)})
	}
	return bodyOf(all...)
}

// AclBody returns the body that tells a.
func AclBody(a api.Acl) (api.Json, bool) {
	if isTooMany(len(a.Allow), len(a.Deny)) || !aclFits(&a) {
		return api.Json{}, false
	}
	return bodyOf(pair{keyAllow, texts(a.Allow)}, pair{keyDeny, texts(a.Deny)})
}

// CreateBody returns the body that tells a creator.
func CreateBody(creator string) (api.Json, bool) {
	if !ident.User(creator) {
		return api.Json{}, false
	}
	return bodyOf(pair{keyCreator, text(creator)})
}

// pair is a key of an object, and its value.
type pair struct {
	key string
	v   api.Json
}

// bodyOf returns the canonical object of the pairs, if it is valid: whether
// numbers are in range, texts valid, and keys different, is seen here alone.
func bodyOf(pairs ...pair) (api.Json, bool) {
	o := objectOf(pairs...)
	if json.Check(o) != api.OK {
		return api.Json{}, false
	}
	return canon.Canon(o), true
}

func objectOf(pairs ...pair) api.Json {
	o := api.Json{Kind: api.JsonObject}
	for _, p := range pairs {
		o.Keys = append(o.Keys, p.key)
		o.Items = append(o.Items, p.v)
	}
	return o
}

func text(s string) api.Json { return api.Json{Kind: api.JsonText, Text: s} }

func number(n int64) api.Json { return api.Json{Kind: api.JsonNumber, N: n} }

func texts(all []string) api.Json {
	l := api.Json{Kind: api.JsonList}
	for _, s := range all {
		l.Items = append(l.Items, text(s))
	}
	return l
}

// isTooMany spares the work, and the memory, of a body that could not be valid.
func isTooMany(a, b int) bool { return a > api.MostNodes || b > api.MostNodes }
