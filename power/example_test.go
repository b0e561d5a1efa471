package power_test

import (
	"fmt"

	"outlaw/api"
	"outlaw/power"
)

func ExampleDefault() {
	l := power.Default("@a:s")
	fmt.Println(power.May(l, "@a:s", api.PowBan), power.May(l, "@b:s", api.PowBan))
	fmt.Println(power.Send(l, "@b:s", "m.room.message", false), power.Send(l, "@b:s", "m.room.topic", true))
	// Output:
	// true false
	// true false
}

func ExampleChange() {
	old := power.Default("@a:s")
	now := power.Default("@a:s")
	now.Users = append(now.Users, api.UserLevel{User: "@b:s", N: 50})
	fmt.Println(power.Change(old, now, "@a:s"), power.Change(old, now, "@b:s"))
	// Output: true false
}
