package content

import (
	"slices"

	"outlaw/api"
	"outlaw/canon"
	"outlaw/ident"
	"outlaw/json"
)

// MemberOf returns the membership that body tells.
func MemberOf(body api.Json) (int, bool) {
	var name string
	if !isBody(body) || !read(body, textOf, map[string]*string{keyMembership: &name}) {
		return api.MemberNone, false
	}
	for membership, s := range memberships {
		if s == name {
			return membership, membership != api.MemberNone
		}
	}
	return api.MemberNone, false
}

// LevelsOf returns the levels that body tells.
func LevelsOf(body api.Json) (api.Levels, bool) {
	l := api.Levels{StateDefault: 50, Ban: 50, Kick: 50, Redact: 50}
	is := isBody(body) &&
		read(body, numberOf, numbers(&l)) &&
		read(body, userLevelsOf, map[string]*[]api.UserLevel{keyUsers: &l.Users}) &&
		read(body, typeLevelsOf, map[string]*[]api.TypeLevel{keyEvents: &l.Events})
	return orNothing(l, is)
}

// RuleOf returns the rule that body tells.
func RuleOf(body api.Json) (api.RuleBody, bool) {
	var r api.RuleBody
	is := isBody(body) &&
		read(body, textOf, map[string]*string{keyEntity: &r.Entity, keyRecommendation: &r.Recommendation}) &&
		read(body, textIfAny, map[string]*string{keyReason: &r.Reason}) &&
		ruleFits(&r)
	return orNothing(r, is)
}

// AclOf returns the Acl that body tells.
func AclOf(body api.Json) (api.Acl, bool) {
	var a api.Acl
	is := isBody(body) &&
		read(body, textsOf, map[string]*[]string{keyAllow: &a.Allow, keyDeny: &a.Deny}) &&
		aclFits(&a)
	return orNothing(a, is)
}

// CreatorOf returns the creator whom body tells.
func CreatorOf(body api.Json) (string, bool) {
	var creator string
	is := isBody(body) &&
		read(body, textOf, map[string]*string{keyCreator: &creator}) &&
		ident.User(creator)
	return orNothing(creator, is)
}

// orNothing returns x, if is holds.
func orNothing[T any](x T, is bool) (T, bool) {
	if !is {
		var none T
		return none, false
	}
	return x, true
}

// isBody reports whether there may be fields in v.
func isBody(v api.Json) bool {
	return v.Kind == api.JsonObject && json.Check(v) == api.OK
}

// read puts what from makes of the value of each key where fields tells, and
// leaves what is missing as it is. It reports whether every value is of the
// kind that from takes.
func read[T any](body api.Json, from func(api.Json) (T, bool), fields map[string]*T) bool {
	for key, field := range fields {
		v, has := canon.Get(body, key)
		if !has {
			continue
		}
		x, is := from(v)
		if !is {
			return false
		}
		*field = x
	}
	return true
}

func textOf(v api.Json) (string, bool) { return v.Text, v.Kind == api.JsonText }

// textIfAny takes a value of any kind: only a text has a Text.
func textIfAny(v api.Json) (string, bool) { return v.Text, true }

func numberOf(v api.Json) (int64, bool) { return v.N, v.Kind == api.JsonNumber }

func textsOf(v api.Json) ([]string, bool) {
	if v.Kind != api.JsonList {
		return nil, false
	}
	var all []string
	for _, x := range v.Items {
		s, is := textOf(x)
		if !is {
			return nil, false
		}
		all = append(all, s)
	}
	return all, true
}

func userLevelsOf(v api.Json) ([]api.UserLevel, bool) {
	v, is := sortedNumbers(v)
	var all []api.UserLevel
	for i, user := range v.Keys {
		is = is && ident.User(user)
		all = append(all, api.UserLevel{User: user, N: v.Items[i].N})
	}
	return all, is
}

func typeLevelsOf(v api.Json) ([]api.TypeLevel, bool) {
	v, is := sortedNumbers(v)
	var all []api.TypeLevel
	for i, typ := range v.Keys {
		all = append(all, api.TypeLevel{Type: typ, N: v.Items[i].N})
	}
	return all, is
}

// sortedNumbers returns v with its keys in order, if it is an object of numbers.
func sortedNumbers(v api.Json) (api.Json, bool) {
	isOther := func(x api.Json) bool { return x.Kind != api.JsonNumber }
	if v.Kind != api.JsonObject || slices.ContainsFunc(v.Items, isOther) {
		return api.Json{}, false
	}
	return canon.Canon(v), true
}
