package content_test

import (
	stdjson "encoding/json"
	"fmt"
	"regexp"
	"slices"
	"sort"
	"strconv"
	"strings"
	"testing"
	"unicode/utf8"

	"outlaw/api"
	"outlaw/canon"
	"outlaw/content"
	"outlaw/jsontest"
)

// The second way: bodies become what the library reads, in which fields are
// asked for one by one.

var slowUser = regexp.MustCompile(`^@[a-z0-9._=\-/+]+:[a-zA-Z0-9.\-]+(:[0-9]{1,5})?$`)

func isSlowUser(s string) bool {
	_, server, _ := strings.Cut(s, ":")
	return slowUser.MatchString(s) && len(s) <= 255 && len(server) <= 128
}

// fields returns what the library reads, or nil if body is none.
func fields(body api.Json) map[string]any {
	s, err := canon.Bytes(body)
	if err != api.OK || s[0] != '{' {
		return nil
	}
	d := stdjson.NewDecoder(strings.NewReader(s))
	d.UseNumber()
	m := map[string]any{}
	if err := d.Decode(&m); err != nil {
		panic(err)
	}
	return m
}

func slowNumber(x any) (int64, bool) {
	n, is := x.(stdjson.Number)
	if !is {
		return 0, false
	}
	return atoi(n.String()), true
}

func slowTexts(x any, has bool) ([]string, bool) {
	if !has {
		return nil, true
	}
	l, is := x.([]any)
	var all []string
	for _, y := range l {
		s, isText := y.(string)
		is = is && isText
		all = append(all, s)
	}
	return all, is
}

// slowNumbers returns the keys of an object of numbers, sorted, and the numbers.
func slowNumbers(x any, has bool) ([]string, map[string]int64, bool) {
	if !has {
		return nil, nil, true
	}
	m, is := x.(map[string]any)
	var keys []string
	numbers := map[string]int64{}
	for key, y := range m {
		n, isNumber := slowNumber(y)
		is = is && isNumber
		keys = append(keys, key)
		numbers[key] = n
	}
	sort.Strings(keys)
	return keys, numbers, is
}

func slowMember(body api.Json) int {
	name, _ := fields(body)["membership"].(string)
	return map[string]int{"invite": 1, "join": 2, "leave": 3, "ban": 4}[name]
}

func slowCreator(body api.Json) string {
	s, _ := fields(body)["creator"].(string)
	if !isSlowUser(s) {
		return ""
	}
	return s
}

func isSlowRule(r api.RuleBody) bool {
	fits := func(s string, from, to int) bool { return utf8.ValidString(s) && len(s) >= from && len(s) <= to }
	return fits(r.Entity, 1, 255) && fits(r.Recommendation, 1, 128) && fits(r.Reason, 0, 255)
}

func slowRule(body api.Json) (api.RuleBody, bool) {
	m := fields(body)
	entity, isEntity := m["entity"].(string)
	recommendation, isRecommendation := m["recommendation"].(string)
	reason, _ := m["reason"].(string)
	r := api.RuleBody{Entity: entity, Recommendation: recommendation, Reason: reason}
	if !isEntity || !isRecommendation || !isSlowRule(r) {
		return api.RuleBody{}, false
	}
	return r, true
}

func isSlowAcl(a api.Acl) bool {
	for _, s := range append(slices.Clone(a.Allow), a.Deny...) {
		if !utf8.ValidString(s) || len(s) > 255 {
			return false
		}
	}
	return len(a.Allow)+len(a.Deny)+3 <= 400
}

func slowAcl(body api.Json) (api.Acl, bool) {
	m := fields(body)
	x, has := m["allow"]
	allow, isAllow := slowTexts(x, has)
	x, has = m["deny"]
	deny, isDeny := slowTexts(x, has)
	a := api.Acl{Allow: allow, Deny: deny}
	if m == nil || !isAllow || !isDeny || !isSlowAcl(a) {
		return api.Acl{}, false
	}
	return a, true
}

func slowLevels(body api.Json) (api.Levels, bool) {
	m := fields(body)
	ok := m != nil
	get := func(key string, n int64) int64 {
		if x, has := m[key]; has {
			var is bool
			n, is = slowNumber(x)
			ok = ok && is
		}
		return n
	}
	l := api.Levels{
		UsersDefault: get("users_default", 0), EventsDefault: get("events_default", 0), StateDefault: get("state_default", 50),
		Ban: get("ban", 50), Kick: get("kick", 50), Redact: get("redact", 50), Invite: get("invite", 0),
	}
	x, has := m["users"]
	keys, of, is := slowNumbers(x, has)
	for _, key := range keys {
		is = is && isSlowUser(key)
		l.Users = append(l.Users, api.UserLevel{User: key, N: of[key]})
	}
	ok = ok && is
	x, has = m["events"]
	keys, of, is = slowNumbers(x, has)
	for _, key := range keys {
		l.Events = append(l.Events, api.TypeLevel{Type: key, N: of[key]})
	}
	if !ok || !is {
		return api.Levels{}, false
	}
	return l, true
}

// values returns values of all kinds, for any key; nil stands for no value.
func values() []*api.Json {
	all := []*api.Json{nil}
	some := func(letter string, n int) string { return strings.Repeat(letter, n/len(letter)) }
	for _, v := range []api.Json{
		null(), truth(0), truth(1), number(0), number(-7), number(most), number(-most),
		list(), list(text("a")), list(text("b"), text("a"), text("")), list(text("a"), number(1)), list(null()), list(list()), list(text(some("a", 256))),
		object(""), object("@b:s @a:s", number(1), number(2)), object("@a:s", text("1")), object("@a:s x", number(1), number(2)), object("x X", number(3), null()), object("é a B", number(1), number(2), number(3)),
		text(""), text("join"), text("ban"), text("Ban"), text("@a:s"), text("@A:s"), text("m.ban"), text("50"),
		text(some("a", 128)), text(some("a", 129)), text(some("é", 128)), text(some("é", 130)), text(some("a", 255)), text(some("a", 256)), text(some("é", 254)), text(some("é", 256)),
		number(most + 1), text("\xff"), object("a a", number(1), number(2)), object("a"),
	} {
		all = append(all, &v)
	}
	return all
}

// checkSlow checks everything that can be read from body.
func checkSlow(t *testing.T, body api.Json) {
	t.Helper()
	memberIs(t, body, slowMember(body))
	creatorIs(t, body, slowCreator(body))
	r, is := slowRule(body)
	ruleIs(t, body, r, is)
	a, is := slowAcl(body)
	aclIs(t, body, a, is)
	l, is := slowLevels(body)
	levelsAre(t, body, l, is)
}

// with returns body with one more key, if there is a value.
func with(body api.Json, key string, v *api.Json) api.Json {
	if v != nil {
		body.Keys = append(slices.Clip(body.Keys), key)
		body.Items = append(slices.Clip(body.Items), *v)
	}
	return body
}

// P6.1 and P6.2: each two values for each two keys.
func TestReadAllPairs(t *testing.T) {
	keys := strings.Fields("membership creator entity recommendation reason allow deny users events users_default events_default state_default ban kick redact invite other")
	all := values()
	for i, a := range keys {
		for _, x := range all {
			body := with(object(""), a, x)
			checkSlow(t, body)
			for j := i + 1; j < len(keys); j++ {
				for k := (i + j) % 5; k < len(all); k += 5 {
					checkSlow(t, with(body, keys[j], all[k]))
				}
			}
		}
	}
}

// P6.1: all values for the three keys of a rule, and for the two of an Acl.
func TestReadAllRules(t *testing.T) {
	all := values()
	for _, x := range all {
		for _, y := range all {
			body := with(with(object(""), "recommendation", x), "entity", y)
			for _, z := range all {
				body := with(body, "reason", z)
				r, is := slowRule(body)
				ruleIs(t, body, r, is)
			}
			body = with(with(object(""), "deny", x), "allow", y)
			a, is := slowAcl(body)
			aclIs(t, body, a, is)
			body = with(with(object(""), "users", x), "events", y)
			l, is := slowLevels(body)
			levelsAre(t, body, l, is)
		}
	}
}

// slowText writes the body of levels that are valid as sorted lines.
func slowText(l api.Levels) string {
	var users, events []string
	for _, x := range l.Users {
		users = append(users, literal(x.User)+":"+strconv.FormatInt(x.N, 10))
	}
	for _, x := range l.Events {
		events = append(events, literal(x.Type)+":"+strconv.FormatInt(x.N, 10))
	}
	return fmt.Sprintf(`{"ban":%d,"events":{%s},"events_default":%d,"invite":%d,"kick":%d,"redact":%d,"state_default":%d,"users":{%s},"users_default":%d}`,
		l.Ban, strings.Join(events, ","), l.EventsDefault, l.Invite, l.Kick, l.Redact, l.StateDefault, strings.Join(users, ","), l.UsersDefault)
}

func literal(s string) string {
	b, _ := canon.Bytes(text(s))
	return b
}

// isSlowLevels looks at one thing after the other.
func isSlowLevels(l api.Levels) bool {
	ok := len(l.Users)+len(l.Events) <= 390
	inRange := func(n int64) { ok = ok && n >= -most && n <= most }
	for _, n := range []int64{l.UsersDefault, l.EventsDefault, l.StateDefault, l.Ban, l.Kick, l.Redact, l.Invite} {
		inRange(n)
	}
	for i, x := range l.Users {
		inRange(x.N)
		ok = ok && isSlowUser(x.User) && (i == 0 || l.Users[i-1].User < x.User)
	}
	for i, x := range l.Events {
		inRange(x.N)
		ok = ok && utf8.ValidString(x.Type) && (i == 0 || l.Events[i-1].Type < x.Type)
	}
	return ok
}

// P6.3 and P6.4: the bodies of all short lists of users and types, and of the
// levels of the other tests.
func TestAllLevelsBodies(t *testing.T) {
	texts := []string{"", "@a:s", "@a:S", "@b:s", "a", "é", "\xff", "@a:"}
	var lists [][]string
	for _, a := range texts {
		lists = append(lists, []string{a})
		for _, b := range texts {
			lists = append(lists, []string{a, b})
			for _, c := range texts {
				lists = append(lists, []string{a, b, c})
			}
		}
	}
	all := different()
	for i, users := range lists {
		l := rich()
		l.Users = nil
		for j, s := range users {
			l.Users = append(l.Users, api.UserLevel{User: s, N: int64(i - j)})
		}
		all = append(all, l)
		for k := i % 7; k < len(lists); k += 7 {
			l.Events = nil
			for j, s := range lists[k] {
				l.Events = append(l.Events, api.TypeLevel{Type: s, N: int64(j - i)})
			}
			all = append(all, l)
		}
	}
	made := 0
	for _, l := range all {
		want := ""
		if isSlowLevels(l) {
			want = slowText(l)
			made++
		}
		levelsBodyIs(t, l, want)
	}
	if made < 50 {
		t.Errorf("only %d were made", made)
	}
}

// P6.3 and P6.4: rules and Acls of all choices of some texts.
func TestAllTextBodies(t *testing.T) {
	var texts []string
	for _, v := range values() {
		if v != nil && v.Kind == api.JsonText {
			texts = append(texts, v.Text)
		}
	}
	for _, a := range texts {
		for _, b := range texts {
			for _, c := range texts {
				r, want := api.RuleBody{Entity: a, Recommendation: b, Reason: c}, ""
				if isSlowRule(r) {
					want = strings.Replace(`{"entity":`+literal(a)+`,"reason":`+literal(c)+`,"recommendation":`+literal(b)+`}`, `"reason":"",`, "", 1)
				}
				ruleBodyIs(t, r, want)
			}
			x, want := api.Acl{Allow: []string{a}, Deny: []string{b, a}}, ""
			if isSlowAcl(x) {
				want = `{"allow":[` + literal(a) + `],"deny":[` + literal(b) + `,` + literal(a) + `]}`
			}
			aclBodyIs(t, x, want)
		}
		want := ""
		if isSlowUser(a) {
			want = `{"creator":` + literal(a) + `}`
		}
		createBodyIs(t, a, want)
	}
}

// P6.4 the other way: what can be read, and made, is read again.
func TestReadMadeRead(t *testing.T) {
	for _, v := range jsontest.Different() {
		body := full()
		body.Keys, body.Items = append(body.Keys, "other"), append(body.Items, v)
		if l, is := content.LevelsOf(body); is {
			levelsBodyIs(t, l, slowText(l))
		}
	}
}
