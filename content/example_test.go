package content_test

import (
	"fmt"

	"outlaw/api"
	"outlaw/canon"
	"outlaw/content"
	"outlaw/json"
)

func ExampleRuleOf() {
	body, _ := json.Parse(`{"entity":"@x:*","recommendation":"m.ban"}`)
	rule, is := content.RuleOf(body)
	fmt.Println(rule.Entity, rule.Recommendation, rule.Reason == "", is)
	_, is = content.RuleOf(api.Json{Kind: api.JsonObject})
	fmt.Println(is)
	// Output:
	// @x:* m.ban true true
	// false
}

func ExampleMemberBody() {
	body, is := content.MemberBody(api.MemberBan)
	bytes, _ := canon.Bytes(body)
	membership, _ := content.MemberOf(body)
	fmt.Println(bytes, is, membership == api.MemberBan)
	// Output: {"membership":"ban"} true true
}
